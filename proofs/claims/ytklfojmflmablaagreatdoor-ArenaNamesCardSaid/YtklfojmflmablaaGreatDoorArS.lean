/- Package arena: all moves of a place, one after the other. -/
import Derived.RangeFuncCalls
import Derived.Test.YtklfojmflmablaaGreatDoorArR
namespace Go.Proofs.YtklfojmflmablaaGreatDoor
open Go Go.RowKit Go.Shelf
attribute [local go_sem] Oper.semAt_some

theorem RoundIn.inRound {F : Fence} {n : Nat} {P : Program} {l' : Nat} {f : FuncId} {tmps : Array Value} {assign body : Code} {w : World} {R : Ending → World → Prop} (l : Nat) (h : RoundIn F n P l' f tmps assign body w R) : RoundIn (F.inRound l) n P l' f tmps assign body w R := h

set_option maxRecDepth 100000 in
set_option maxHeartbeats 1000000 in
theorem placeMoves_iters (p : Pl) (h64 : p.b.n ≤ 9223372036854775807) (w : World) :
    Iters Tryz.prog 74 (fun y => #[plV p, y]) (fun m => #[mvV m]) (movesOf p) (fun _ => False) w := by
  intro y J Jx R W hE _ _ _ hlt hJ
  have HE := Lib.hid hE
  have hf := hE.form
  obtain ⟨W1, hW1⟩ : ∃ W1, (W.alloc (.cells #[.bool p.b.cell, .int .i64 p.b.n, .int .i64 p.id, .int .i64 p.arg, .bool p.jumps] 111)).alloc (.cells #[y] 117) = W1 := ⟨_, rfl⟩
  have o1 : Only (fun _ => False) W W1 := by rw [← hW1]; exact ((Only.refl _ _).alloc _).alloc _
  have z1 : W1.heap.size = W.heap.size + 2 := by rw [← hW1]; simp
  have b1 : BoxP W1 W.heap.size p := by rw [← hW1]; exact (Below.heap_alloc _ _ _ (by simp)).trans (BoxP.new W p)
  have y1 : W1.heap[W.heap.size + 1]? = some (.cells #[y] 117 (0, 0)) := by
    rw [← hW1]; have := World.alloc_heap_new (W.alloc (.cells #[.bool p.b.cell, .int .i64 p.b.n, .int .i64 p.id, .int .i64 p.arg, .bool p.jumps] 111)) (.cells #[y] 117); rwa [World.size_alloc] at this
  have HJ := Lib.hid (hE.stable [] R W W1 hJ (o1.mono fun _ _ f => f.elim))
  have hL1 : ∀ k, R k → k < W1.heap.size := fun k hk => by have := hlt k hk; omega
  have HL := Lib.hid hL1
  have HLW := Lib.hid hlt
  have HO := Lib.hid o1
  have HZ := Lib.hid z1
  have HB := Lib.hid b1
  have HY := Lib.hid y1
  have c0 := b1.c0
  have c1 := b1.c1
  have c2 := b1.c2
  have c3 := b1.c3
  have c4 := b1.c4
  have cy : W1.cell? ⟨W.heap.size + 1, 0, none⟩ = some y := cell_of_row W1 _ 0 _ 117 (0, 0) y1
  clear hE hJ hlt o1 z1 b1 y1 hL1
  have CT : Hid (∀ R3 W3, W.heap.size ≤ W3.heap.size → (∀ k, R3 k → k < W3.heap.size) → J (quests p) R3 W3 → Calls Tryz.prog 89 #[plV p, y] W3 fun e W4 => (∃ v, e = .returned v) ∧ ∃ R4, Foot R3 W3 R4 W4 ∧ (J (movesOf p) R4 W4 ∨ ∃ q, q <+: movesOf p ∧ Jx q R4 W4)) :=
    Lib.hid fun R3 W3 hB3 hR3 hJ3 => Iters.call0 (told_iters p h64) rfl HE.out hB3 hR3 hJ3
  have HIT : Hid (Iters Tryz.prog 93 (fun y => (#[plV p] ++ #[y]) ++ #[]) (fun m => #[mvV m]) (quests p) (fun _ => False) W1) := Lib.hid (by have := questions_iters p h64 W1; simpa using this)
  unfold plV at CT HIT ⊢
  refine (callsIn_wide (n := 3)).1 ?_
  rcases hf with ⟨kf, cp, rfl, ek⟩ | ⟨ly, rfl⟩
  · refine callsIn_of_wp_marks Tryz.func74 rfl trivial ?_ rfl
    simp only [Tryz.ntmps74, List.size_toArray, List.length_cons, List.length_nil, Nat.reduceAdd, Nat.reduceSub, Array.replicate_succ, Array.replicate_zero, List.push_toArray, List.append_toArray, List.nil_append, List.cons_append]
    gi_wp2
    refine wpIn_range (gf := 93) (lb := #[]) rfl (enters_of Tryz.func93 (by kernel_rfl) rfl) HIT.out (fun _ => rfl) (fun pre R W => J pre R W) (fun c pre R W => c = .ret ∧ Jx pre R W)
      (fun pre R3 W3 W4 hj ho => HE.out.stable _ _ _ _ hj (ho.mono fun _ _ h => ⟨by have := HZ.out; omega, h.2⟩))
      (fun c pre R3 W3 W4 hj ho => ⟨hj.1, HE.out.stablex _ _ _ _ hj.2 (ho.mono fun _ _ h => ⟨by have := HZ.out; omega, h.2⟩)⟩)
      R HL.out (fun _ f => f.elim) (fun _ _ f => f) HJ.out ?round ?done ?stop
    case round =>
      intro l pre x R3 W3 hx hft hi hnl hlt hle
      unfold mvV
      gi_wp2
      refine ⟨(Only.refl _ _).alloc _, fun W5 hsz ho1 ho2 hi5 => ?_⟩
      have hny : ¬ R (W.heap.size + 1) := fun h => absurd (HLW.out _ h) (by omega)
      have bm : BoxM W5 W3.heap.size x := (BoxM.new W3 x).only ho1 (by omega)
      have hy3 := hft.box HY.out hny
      have hy5 := (ho2.block _ (Array.getElem?_eq_some_iff.1 hy3).1 (by have := HZ.out; omega)).trans hy3
      have cy5 := cell_of_row W5 _ 0 _ 117 (0, 0) hy5
      have m0 := bm.c0
      have m1 := bm.c1
      have m2 := bm.c2
      have m3 := bm.c3
      have HS5 : Hid (W5.heap.size = W3.heap.size + 1) := Lib.hid (by rw [hsz]; simp)
      have HP : Hid (pre ++ [x] <+: movesOf p) := Lib.hid (hx.trans (List.prefix_append _ _))
      have CY : Hid (CallsIn (Fence.wide.inRound l) 2 Tryz.prog kf (#[mvV x] ++ cp) W5 fun e W' => ∃ R2, Foot R3 W5 R2 W' ∧ ((e = .returned (.bool true) ∧ J (pre ++ [x]) R2 W') ∨ (e = .returned (.bool false) ∧ Jx (pre ++ [x]) R2 W'))) := Lib.hid (by
        have h2 := HE.out.take pre x R3 W5 HP.out (by have := HS5.out; have := hft.only.size; have := HZ.out; omega) hi5 (fun k hk => by have := hft.lt k hk; have := HS5.out; omega)
        refine CallsIn.inRound l (callsIn_wide.2 (h2.fn.mono ?_))
        intro e W' h
        exact h)
      unfold mvV at CY
      clear hsz ho1 ho2 hi5 hy3 hy5 bm
      gi_wp2_with (refine ⟨trivial, ?_⟩; gi_at_fn kf; refine CY.out.mono ?_; rintro e W6 ⟨R6, hf6, (⟨rfl, hJ6⟩ | ⟨rfl, hJ6⟩)⟩)
      · exact ⟨R6, hf6, hJ6⟩
      · exact ⟨R6, hf6, rfl, hJ6⟩
    case done =>
      intro D R3 W3 hD hnD hft hJ3 hK
      have hny : ¬ R (W.heap.size + 1) := fun h => absurd (HLW.out _ h) (by omega)
      have hnp : ¬ R W.heap.size := fun h => absurd (HLW.out _ h) (by omega)
      have hy3 := hft.box HY.out hny
      have hp3 : BoxP W3 W.heap.size p := hft.box HB.out hnp
      have cy3 := cell_of_row W3 _ 0 _ 117 (0, 0) hy3
      have c0 := hp3.c0
      have c1 := hp3.c1
      have c2 := hp3.c2
      have c3 := hp3.c3
      have c4 := hp3.c4
      have HK := Lib.hid hK
      have HJ3 := Lib.hid hJ3
      have HFT := Lib.hid hft
      clear hy3 hp3 hK hJ3 hft
      gi_wp2_with (refine ⟨trivial, ?_⟩; gi_at_call 89; refine (callsIn_wide.2 (CT.out R3 _ (by have := HFT.out.only.size; have := HZ.out; omega) HFT.out.lt HJ3.out)).mono ?_; rintro e w4 ⟨⟨v, rfl⟩, R4, hf4, h4⟩)
      have hK4 := (hf4.only.block D (Array.getElem?_eq_some_iff.1 HK.out).1 hnD).trans HK.out
      have hnD4 : ¬ R4 D := fun h => (hf4.sub D h).elim hnD (fun h => absurd (Array.getElem?_eq_some_iff.1 HK.out).1 (by omega))
      have o5 := (Only.refl (fun k => k = D) w4).putObj D (.deferred none) (fun _ => rfl)
      refine ⟨by simp, .inl ⟨_, _, rfl, run_takeDeferred hK4, ?_⟩⟩
      refine ⟨_, results_none rfl _ _ _, ⟨_, rfl⟩, R4, (Foot.after HO.out (HFT.out.trans hf4)).then (o5.mono fun i _ h => ⟨by have := HZ.out; omega, by rw [h]; exact hnD4⟩), ?_⟩
      have hst : Only (fun k => W.heap.size ≤ k ∧ ¬ R4 k) w4 (w4.putObj D (.deferred none)) := o5.mono fun i _ h => ⟨by have := HZ.out; omega, by rw [h]; exact hnD4⟩
      rcases h4 with h4 | ⟨q, hq, h4⟩
      · exact .inl (HE.out.stable _ _ _ _ h4 hst)
      · exact .inr ⟨q, hq, HE.out.stablex _ _ _ _ h4 hst⟩
    case stop =>
      rintro D c pre R3 W3 hD hnD hpre hft ⟨rfl, hJ3⟩ hK
      have HFT := Lib.hid hft
      have HJ3 := Lib.hid hJ3
      clear hft hJ3
      gi_wp2
      have o5 := (Only.refl (fun k => k = D) W3).putObj D (.deferred none) (fun _ => rfl)
      have hst : Only (fun k => W.heap.size ≤ k ∧ ¬ R3 k) W3 (W3.putObj D (.deferred none)) := o5.mono fun i _ h => ⟨by have := HZ.out; omega, by rw [h]; exact hnD⟩
      refine ⟨by simp, .inl ⟨_, _, rfl, run_takeDeferred hK, ?_⟩⟩
      exact ⟨_, results_none rfl _ _ _, ⟨_, rfl⟩, R3, (Foot.after HO.out HFT.out).then (o5.mono fun i _ h => ⟨by have := HZ.out; omega, by rw [h]; exact hnD⟩), .inr ⟨pre, hpre.trans (List.prefix_append _ _), HE.out.stablex _ _ _ _ HJ3.out hst⟩⟩
  · refine callsIn_of_wp_marks Tryz.func74 rfl trivial ?_ rfl
    simp only [Tryz.ntmps74, List.size_toArray, List.length_cons, List.length_nil, Nat.reduceAdd, Nat.reduceSub, Array.replicate_succ, Array.replicate_zero, List.push_toArray, List.append_toArray, List.nil_append, List.cons_append]
    gi_wp2
    refine wpIn_range (gf := 93) (lb := #[]) rfl (enters_of Tryz.func93 (by kernel_rfl) rfl) HIT.out (fun _ => rfl) (fun pre R W => J pre R W) (fun c pre R W => c = .ret ∧ Jx pre R W)
      (fun pre R3 W3 W4 hj ho => HE.out.stable _ _ _ _ hj (ho.mono fun _ _ h => ⟨by have := HZ.out; omega, h.2⟩))
      (fun c pre R3 W3 W4 hj ho => ⟨hj.1, HE.out.stablex _ _ _ _ hj.2 (ho.mono fun _ _ h => ⟨by have := HZ.out; omega, h.2⟩)⟩)
      R HL.out (fun _ f => f.elim) (fun _ _ f => f) HJ.out ?round ?done ?stop
    case round =>
      intro l pre x R3 W3 hx hft hi hnl hlt hle
      unfold mvV
      gi_wp2
      refine ⟨(Only.refl _ _).alloc _, fun W5 hsz ho1 ho2 hi5 => ?_⟩
      have hny : ¬ R (W.heap.size + 1) := fun h => absurd (HLW.out _ h) (by omega)
      have bm : BoxM W5 W3.heap.size x := (BoxM.new W3 x).only ho1 (by omega)
      have hy3 := hft.box HY.out hny
      have hy5 := (ho2.block _ (Array.getElem?_eq_some_iff.1 hy3).1 (by have := HZ.out; omega)).trans hy3
      have cy5 := cell_of_row W5 _ 0 _ 117 (0, 0) hy5
      have m0 := bm.c0
      have m1 := bm.c1
      have m2 := bm.c2
      have m3 := bm.c3
      have HS5 : Hid (W5.heap.size = W3.heap.size + 1) := Lib.hid (by rw [hsz]; simp)
      have HP : Hid (pre ++ [x] <+: movesOf p) := Lib.hid (hx.trans (List.prefix_append _ _))
      have CY : Hid (YieldAt Fence.wide 2 Tryz.prog ly #[mvV x] W5 fun e W' => ∃ R2, Foot R3 W5 R2 W' ∧ ((e = .returned (.bool true) ∧ J (pre ++ [x]) R2 W') ∨ (e = .returned (.bool false) ∧ Jx (pre ++ [x]) R2 W'))) := Lib.hid (by
        have h2 := HE.out.take pre x R3 W5 HP.out (by have := HS5.out; have := hft.only.size; have := HZ.out; omega) hi5 (fun k hk => by have := hft.lt k hk; have := HS5.out; omega)
        refine (h2.yield 2).mono ?_
        intro e W' h
        exact h)
      unfold mvV at CY
      clear hsz ho1 ho2 hi5 hy3 hy5 bm
      obtain ⟨fn, tmps, assign, body, hy, hR⟩ := CY.out
      replace hR := RoundIn.inRound l hR
      gi_wp2_with (refine hR.mono ?_; rintro e W6 ⟨R6, hf6, (⟨rfl, hJ6⟩ | ⟨rfl, hJ6⟩)⟩)
      · exact ⟨R6, hf6, hJ6⟩
      · exact ⟨R6, hf6, rfl, hJ6⟩
    case done =>
      intro D R3 W3 hD hnD hft hJ3 hK
      have hny : ¬ R (W.heap.size + 1) := fun h => absurd (HLW.out _ h) (by omega)
      have hnp : ¬ R W.heap.size := fun h => absurd (HLW.out _ h) (by omega)
      have hy3 := hft.box HY.out hny
      have hp3 : BoxP W3 W.heap.size p := hft.box HB.out hnp
      have cy3 := cell_of_row W3 _ 0 _ 117 (0, 0) hy3
      have c0 := hp3.c0
      have c1 := hp3.c1
      have c2 := hp3.c2
      have c3 := hp3.c3
      have c4 := hp3.c4
      have HK := Lib.hid hK
      have HJ3 := Lib.hid hJ3
      have HFT := Lib.hid hft
      clear hy3 hp3 hK hJ3 hft
      gi_wp2_with (refine ⟨trivial, ?_⟩; gi_at_call 89; refine (callsIn_wide.2 (CT.out R3 _ (by have := HFT.out.only.size; have := HZ.out; omega) HFT.out.lt HJ3.out)).mono ?_; rintro e w4 ⟨⟨v, rfl⟩, R4, hf4, h4⟩)
      have hK4 := (hf4.only.block D (Array.getElem?_eq_some_iff.1 HK.out).1 hnD).trans HK.out
      have hnD4 : ¬ R4 D := fun h => (hf4.sub D h).elim hnD (fun h => absurd (Array.getElem?_eq_some_iff.1 HK.out).1 (by omega))
      have o5 := (Only.refl (fun k => k = D) w4).putObj D (.deferred none) (fun _ => rfl)
      refine ⟨by simp, .inl ⟨_, _, rfl, run_takeDeferred hK4, ?_⟩⟩
      refine ⟨_, results_none rfl _ _ _, ⟨_, rfl⟩, R4, (Foot.after HO.out (HFT.out.trans hf4)).then (o5.mono fun i _ h => ⟨by have := HZ.out; omega, by rw [h]; exact hnD4⟩), ?_⟩
      have hst : Only (fun k => W.heap.size ≤ k ∧ ¬ R4 k) w4 (w4.putObj D (.deferred none)) := o5.mono fun i _ h => ⟨by have := HZ.out; omega, by rw [h]; exact hnD4⟩
      rcases h4 with h4 | ⟨q, hq, h4⟩
      · exact .inl (HE.out.stable _ _ _ _ h4 hst)
      · exact .inr ⟨q, hq, HE.out.stablex _ _ _ _ h4 hst⟩
    case stop =>
      rintro D c pre R3 W3 hD hnD hpre hft ⟨rfl, hJ3⟩ hK
      have HFT := Lib.hid hft
      have HJ3 := Lib.hid hJ3
      clear hft hJ3
      gi_wp2
      have o5 := (Only.refl (fun k => k = D) W3).putObj D (.deferred none) (fun _ => rfl)
      have hst : Only (fun k => W.heap.size ≤ k ∧ ¬ R3 k) W3 (W3.putObj D (.deferred none)) := o5.mono fun i _ h => ⟨by have := HZ.out; omega, by rw [h]; exact hnD⟩
      refine ⟨by simp, .inl ⟨_, _, rfl, run_takeDeferred hK, ?_⟩⟩
      exact ⟨_, results_none rfl _ _ _, ⟨_, rfl⟩, R3, (Foot.after HO.out HFT.out).then (o5.mono fun i _ h => ⟨by have := HZ.out; omega, by rw [h]; exact hnD⟩), .inr ⟨pre, hpre.trans (List.prefix_append _ _), HE.out.stablex _ _ _ _ HJ3.out hst⟩⟩
end Go.Proofs.YtklfojmflmablaaGreatDoor
