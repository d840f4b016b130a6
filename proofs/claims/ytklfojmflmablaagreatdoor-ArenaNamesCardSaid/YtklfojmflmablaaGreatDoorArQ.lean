/- Package arena: the iterators of a place: answers, told, done. -/
import Derived.Test.YtklfojmflmablaaGreatDoorArP
namespace Go.Proofs.YtklfojmflmablaaGreatDoor
open Go Go.RowKit Go.Shelf
attribute [local go_sem] Oper.semAt_some

set_option maxRecDepth 100000 in
set_option maxHeartbeats 1000000 in
theorem answers_iters (p : Pl) (many : Int) (h64 : many ≤ 9223372036854775807) (w : World) :
    Iters Tryz.prog 162 (fun y => #[plV p, .int .i64 many, y]) (fun m => #[mvV m]) (answ p many) (fun _ => False) w := by
  obtain ⟨b, id, arg, ju⟩ := p
  cases ju
  · intro y J Jx R W hE _ _ _ hlt hJ
    have HE := Lib.hid hE
    have hf := hE.form
    obtain ⟨W1, hW1⟩ : ∃ W1, W.alloc (.cells #[.bool b.cell, .int .i64 b.n, .int .i64 id, .int .i64 arg, .bool false] 111) = W1 := ⟨_, rfl⟩
    have o1 : Only (fun _ => False) W W1 := by rw [← hW1]; exact (Only.refl _ _).alloc _
    have z1 : W1.heap.size = W.heap.size + 1 := by rw [← hW1]; simp
    have b1 : BoxP W1 W.heap.size ⟨b, id, arg, false⟩ := by rw [← hW1]; exact BoxP.new W ⟨b, id, arg, false⟩
    have HJ := Lib.hid (hE.stable [] R W W1 hJ (o1.mono fun _ _ f => f.elim))
    have hL1 : ∀ k, R k → k < W1.heap.size := fun k hk => by have := hlt k hk; omega
    have HL := Lib.hid hL1
    have HO := Lib.hid o1
    have nb : ¬ R W.heap.size := fun h => absurd (hlt _ h) (by omega)
    have HNB := Lib.hid nb
    have HZ := Lib.hid z1
    have HB := Lib.hid b1
    have c0 := b1.c0
    have c1 := b1.c1
    have c2 := b1.c2
    have c3 := b1.c3
    have c4 := b1.c4
    dsimp only at c0 c1 c2 c3 c4
    clear hE hJ hlt o1 z1 b1 nb hL1
    refine (callsIn_wide (n := 3)).1 ?_
    have CB : ∀ pre, Hid (answ ⟨b, id, arg, false⟩ many = pre ++ vals id arg 3 many.toNat) → Hid (∀ R3 W3, W.heap.size ≤ W3.heap.size → (∀ k, R3 k → k < W3.heap.size) → J pre R3 W3 → Calls Tryz.prog 165 #[plV ⟨b, id, arg, false⟩, .int .i64 many, .int .u8 3, y] W3 fun e W4 => (∃ v, e = .returned v) ∧ ∃ R4, Foot R3 W3 R4 W4 ∧ (J (answ ⟨b, id, arg, false⟩ many) R4 W4 ∨ ∃ q, q <+: answ ⟨b, id, arg, false⟩ many ∧ Jx q R4 W4)) :=
      fun pre hpre => Lib.hid fun R3 W3 hB3 hR3 hJ3 => Iters.call0 (below_iters ⟨b, id, arg, false⟩ many 3 h64 _) hpre.out HE.out hB3 hR3 hJ3
    have CB := CB [] (Lib.hid rfl)
    unfold plV at CB ⊢
    dsimp only at CB ⊢
    refine callsIn_of_wp Tryz.func162 rfl trivial ?_ rfl
    simp only [Tryz.ntmps162, List.size_toArray, List.length_cons, List.length_nil, Nat.reduceAdd, Nat.reduceSub, Array.replicate_succ, Array.replicate_zero, List.push_toArray, List.append_toArray, List.nil_append, List.cons_append]
    gi_wp2
    refine ⟨trivial, ?_⟩
    gi_wp2
    refine ⟨fun _ h => (by cases h), ?_⟩
    gi_wp2_with (refine ⟨trivial, ?_⟩; gi_at_call 165; refine (callsIn_wide.2 (CB.out R _ (by have := HZ.out; omega) HL.out HJ.out)).mono ?_; rintro e w4 ⟨⟨v, rfl⟩, R4, hf4, h4⟩)
    go_end0
    exact ⟨⟨_, rfl⟩, R4, Foot.after HO.out hf4, h4⟩
  · intro y J Jx R W hE _ _ _ hlt hJ
    have HE := Lib.hid hE
    have hf := hE.form
    obtain ⟨W1, hW1⟩ : ∃ W1, W.alloc (.cells #[.bool b.cell, .int .i64 b.n, .int .i64 id, .int .i64 arg, .bool true] 111) = W1 := ⟨_, rfl⟩
    have o1 : Only (fun _ => False) W W1 := by rw [← hW1]; exact (Only.refl _ _).alloc _
    have z1 : W1.heap.size = W.heap.size + 1 := by rw [← hW1]; simp
    have b1 : BoxP W1 W.heap.size ⟨b, id, arg, true⟩ := by rw [← hW1]; exact BoxP.new W ⟨b, id, arg, true⟩
    have HJ := Lib.hid (hE.stable [] R W W1 hJ (o1.mono fun _ _ f => f.elim))
    have hL1 : ∀ k, R k → k < W1.heap.size := fun k hk => by have := hlt k hk; omega
    have HL := Lib.hid hL1
    have HO := Lib.hid o1
    have nb : ¬ R W.heap.size := fun h => absurd (hlt _ h) (by omega)
    have HNB := Lib.hid nb
    have HZ := Lib.hid z1
    have HB := Lib.hid b1
    have c0 := b1.c0
    have c1 := b1.c1
    have c2 := b1.c2
    have c3 := b1.c3
    have c4 := b1.c4
    dsimp only at c0 c1 c2 c3 c4
    clear hE hJ hlt o1 z1 b1 nb hL1
    refine (callsIn_wide (n := 3)).1 ?_
    have CB : ∀ pre, Hid (answ ⟨b, id, arg, true⟩ many = pre ++ vals id arg 3 many.toNat) → Hid (∀ R3 W3, W.heap.size ≤ W3.heap.size → (∀ k, R3 k → k < W3.heap.size) → J pre R3 W3 → Calls Tryz.prog 165 #[plV ⟨b, id, arg, true⟩, .int .i64 many, .int .u8 3, y] W3 fun e W4 => (∃ v, e = .returned v) ∧ ∃ R4, Foot R3 W3 R4 W4 ∧ (J (answ ⟨b, id, arg, true⟩ many) R4 W4 ∨ ∃ q, q <+: answ ⟨b, id, arg, true⟩ many ∧ Jx q R4 W4)) :=
      fun pre hpre => Lib.hid fun R3 W3 hB3 hR3 hJ3 => Iters.call0 (below_iters ⟨b, id, arg, true⟩ many 3 h64 _) hpre.out HE.out hB3 hR3 hJ3
    have hA : Hid (answ ⟨b, id, arg, true⟩ many = [⟨id, arg, 3, -1⟩] ++ vals id arg 3 many.toNat) := Lib.hid rfl
    have CB := CB _ hA
    have HP : Hid ([] ++ [(⟨id, arg, 3, -1⟩ : Mv)] <+: answ ⟨b, id, arg, true⟩ many) := Lib.hid (by rw [hA.out]; exact List.prefix_append _ _)
    have C164 := Lib.hid (move_any ⟨b, id, arg, true⟩ 3 (-1))
    unfold plV at CB C164 ⊢
    dsimp only at CB C164 ⊢
    have CY : Hid (∀ w2, Below W1.heap.size W1 w2 → Yields Tryz.prog y #[mvV ⟨id, arg, 3, -1⟩] w2 fun e W' => ∃ R2, Foot R W1 R2 W' ∧ ((e = .returned (.bool true) ∧ J [⟨id, arg, 3, -1⟩] R2 W') ∨ (e = .returned (.bool false) ∧ Jx [⟨id, arg, 3, -1⟩] R2 W'))) := Lib.hid (by
      intro w2 hb2
      have ho2 : Only (fun _ => False) W1 w2 := Only.of_below hb2
      refine (HE.out.take _ _ R w2 HP.out (by have := HZ.out; have := hb2.size; omega) (HE.out.stable _ _ _ _ HJ.out (ho2.mono fun _ _ f => f.elim)) (fun k hk => Nat.lt_of_lt_of_le (HL.out k hk) hb2.size)).mono ?_
      rintro e W' ⟨R2, hf2, h2⟩
      exact ⟨R2, Foot.after ho2 hf2, h2⟩)
    clear hA
    rcases hf with ⟨kf, cp, rfl, ek⟩ | ⟨l, rfl⟩
    · refine callsIn_of_wp Tryz.func162 rfl trivial ?_ rfl
      simp only [Tryz.ntmps162, List.size_toArray, List.length_cons, List.length_nil, Nat.reduceAdd, Nat.reduceSub, Array.replicate_succ, Array.replicate_zero, List.push_toArray, List.append_toArray, List.nil_append, List.cons_append]
      gi_wp2_with (first
        | (refine ⟨trivial, ?_⟩; gi_at_call 164; refine (callsIn_wide.2 (C164.out _)).mono ?_; rintro e w2 ⟨rfl, hb2⟩)
        | (refine ⟨trivial, ?_⟩; gi_at_fn kf; refine (callsIn_wide.2 (CY.out _ hb2).fn).mono ?_; rintro e w3 ⟨R2, hf2, (⟨rfl, hJ2⟩ | ⟨rfl, hJ2⟩)⟩ <;> (have hbx : BoxP w3 W.heap.size ⟨b, id, arg, true⟩ := hf2.box HB.out HNB.out; have c0 := hbx.c0; have c1 := hbx.c1; have c2 := hbx.c2; have c3 := hbx.c3; have c4 := hbx.c4; dsimp only at c0 c1 c2 c3 c4))
        | (refine ⟨trivial, ?_⟩; gi_at_call 165; refine (callsIn_wide.2 (CB.out R2 _ (by have := hf2.only.size; have := HZ.out; omega) hf2.lt hJ2)).mono ?_; rintro e w4 ⟨⟨v, rfl⟩, R4, hf4, h4⟩))
      · go_end0
        exact ⟨⟨_, rfl⟩, R4, Foot.after HO.out (hf2.trans hf4), h4⟩
      · go_end0
        exact ⟨⟨_, rfl⟩, R2, Foot.after HO.out hf2, .inr ⟨_, HP.out, hJ2⟩⟩
    · refine callsIn_of_wp Tryz.func162 rfl trivial ?_ rfl
      simp only [Tryz.ntmps162, List.size_toArray, List.length_cons, List.length_nil, Nat.reduceAdd, Nat.reduceSub, Array.replicate_succ, Array.replicate_zero, List.push_toArray, List.append_toArray, List.nil_append, List.cons_append]
      gi_wp2_with (first
        | (refine ⟨trivial, ?_⟩; gi_at_call 164; refine (callsIn_wide.2 (C164.out _)).mono ?_; rintro e w2 ⟨rfl, hb2⟩; obtain ⟨fn, tmps, assign, body, hy, hR⟩ := (CY.out _ hb2).yield 2)
        | (refine hR.mono ?_; rintro e w3 ⟨R2, hf2, (⟨rfl, hJ2⟩ | ⟨rfl, hJ2⟩)⟩ <;> (have hbx : BoxP w3 W.heap.size ⟨b, id, arg, true⟩ := hf2.box HB.out HNB.out; have c0 := hbx.c0; have c1 := hbx.c1; have c2 := hbx.c2; have c3 := hbx.c3; have c4 := hbx.c4; dsimp only at c0 c1 c2 c3 c4))
        | (refine ⟨trivial, ?_⟩; gi_at_call 165; refine (callsIn_wide.2 (CB.out R2 _ (by have := hf2.only.size; have := HZ.out; omega) hf2.lt hJ2)).mono ?_; rintro e w4 ⟨⟨v, rfl⟩, R4, hf4, h4⟩))
      · go_end0
        exact ⟨⟨_, rfl⟩, R4, Foot.after HO.out (hf2.trans hf4), h4⟩
      · go_end0
        exact ⟨⟨_, rfl⟩, R2, Foot.after HO.out hf2, .inr ⟨_, HP.out, hJ2⟩⟩
end Go.Proofs.YtklfojmflmablaaGreatDoor
