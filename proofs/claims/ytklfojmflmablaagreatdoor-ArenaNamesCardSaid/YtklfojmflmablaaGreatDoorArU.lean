/- Package arena: the iterator of the places of an arena. -/
import Derived.Test.YtklfojmflmablaaGreatDoorArT
namespace Go.Proofs.YtklfojmflmablaaGreatDoor
open Go Go.RowKit Go.Shelf
attribute [local go_sem] Oper.semAt_some

theorem Eats.next {α : Type} {P : Program} {B : Nat} {y : Value} {enc : α → Array Value} {xs : List α} {J Jx : List α → Sets → World → Prop} (h : Eats P B y enc xs J Jx) {W0 : World} {R0 R : Sets} {W : World} {pre : List α} {x : α}
    (hx : pre ++ [x] <+: xs) (hB : B ≤ W0.heap.size) (hf : Foot R0 W0 R W) (hj : J pre R W) : ∀ w2, Only (fun k => B ≤ k ∧ ¬ R k) W w2 → Yields P y (enc x) w2 fun e W' => ∃ R2, Foot R w2 R2 W' ∧ ((e = .returned (.bool true) ∧ J (pre ++ [x]) R2 W') ∨ (e = .returned (.bool false) ∧ Jx (pre ++ [x]) R2 W')) :=
  fun w2 ho => h.take pre x R w2 hx (by have := hf.only.size; have := ho.size; omega) (h.stable _ _ _ _ hj ho) (fun k hk => Nat.lt_of_lt_of_le (hf.lt k hk) ho.size)

set_option maxRecDepth 100000 in
set_option maxHeartbeats 2000000 in
theorem places_iters_true (v : Value) (ids : List Ty) (root : Bs) (n₀ : Nat) (w : World) (hs : smallAr (⟨ids, root, true⟩ : Ar)) (hn : n₀ ≤ w.heap.size) (hv : TyIn w n₀ v ids) :
    Iters Tryz.prog 153 (fun y => #[arV v root true, y]) (fun p => #[plV p]) (places (⟨ids, root, true⟩ : Ar)) (fun k => k < n₀) w := by
  intro y J Jx R W hE hle hown hdis hlt hJ
  have HV := Lib.hid (hv.below hown)
  have HE := Lib.hid hE
  have hf := hE.form
  obtain ⟨A, cap, rfl, hA⟩ := hv.below hown
  have HA := Lib.hid hA
  obtain ⟨W1, hW1⟩ : ∃ W1, W.alloc (.cells #[.slice A ids.length cap, .bool root.cell, .int .i64 root.n, .bool true] 105) = W1 := ⟨_, rfl⟩
  have o1 : Only (fun _ => False) W W1 := by rw [← hW1]; exact (Only.refl _ _).alloc _
  have z1 : W1.heap.size = W.heap.size + 1 := by rw [← hW1]; simp
  have b1 : W1.heap[W.heap.size]? = some (.cells #[.slice A ids.length cap, .bool root.cell, .int .i64 root.n, .bool true] 105 (0, 0)) := by rw [← hW1]; exact World.alloc_heap_new W _
  have HJ := Lib.hid (hE.stable [] R W W1 hJ (o1.mono fun _ _ f => f.elim))
  have hL1 : ∀ k, R k → k < W1.heap.size := fun k hk => by have := hlt k hk; omega
  have HL := Lib.hid hL1
  have HLW := Lib.hid hlt
  have HD := Lib.hid hdis
  have HO := Lib.hid o1
  have HZ := Lib.hid z1
  have HN := Lib.hid (Nat.le_trans hn hle)
  have HB := Lib.hid b1
  have c0 := cell_of_row W1 _ 0 _ 105 (0, 0) b1
  have c1 := cell_of_row W1 _ 1 _ 105 (0, 0) b1
  have c2 := cell_of_row W1 _ 2 _ 105 (0, 0) b1
  have c3 := cell_of_row W1 _ 3 _ 105 (0, 0) b1
  have hlen := hs.1
  have HS := Lib.hid hs
  have CY0 := Lib.hid (hE.next (x := ⟨root, 0, 0, true⟩) (plLo_pre (⟨ids, root, true⟩ : Ar) 0) (by omega) (Foot.refl hL1) HJ.out W1 (Only.refl _ _))
  unfold plV at CY0
  clear hE hJ hlt o1 z1 b1 hL1 hdis hA hs hn hle hv hown
  unfold arV
  refine (callsIn_wide (n := 3)).1 ?_
  rcases hf with ⟨kf, cp, rfl, ek⟩ | ⟨ly, rfl⟩
  · refine callsIn_of_wp Tryz.func153 rfl trivial ?_ rfl
    simp only [Tryz.ntmps153, List.size_toArray, List.length_cons, List.length_nil, Nat.reduceAdd, Nat.reduceSub, Array.replicate_succ, Array.replicate_zero, List.push_toArray, List.append_toArray, List.nil_append, List.cons_append]
    gi_wp2_with (refine ⟨trivial, ?_⟩; gi_at_fn kf; refine (callsIn_wide.2 CY0.out.fn).mono ?_; rintro e w3 ⟨R2, hf2, (⟨rfl, hJ2⟩ | ⟨rfl, hJ2⟩)⟩ <;> (have hbx := hf2.box HB.out (fun h => absurd (HLW.out _ h) (by omega)); have c0 := cell_of_row w3 _ 0 _ 105 (0, 0) hbx; have c1 := cell_of_row w3 _ 1 _ 105 (0, 0) hbx; have c2 := cell_of_row w3 _ 2 _ 105 (0, 0) hbx; have c3 := cell_of_row w3 _ 3 _ 105 (0, 0) hbx; clear hbx))
    · have HJ2 : Hid (J (plLo (⟨ids, root, true⟩ : Ar) 0) R2 w3) := Lib.hid hJ2
      have HF2 := Lib.hid hf2
      clear hJ2 hf2
      gi_loopw [22] (fun i wr => ∃ (k : Nat) (R3 : Sets), i = .int .i64 k ∧ k ≤ ids.length ∧ Hid (J (plLo (⟨ids, root, true⟩ : Ar) k) R3 wr) ∧ Hid (Foot R W1 R3 wr)) (fun i _ => ids.length - (intOf i).toNat)
      case atStart => exact ⟨0, R2, rfl, Nat.zero_le _, HJ2, HF2⟩
      case round =>
        obtain ⟨k, R3, rfl, hk, hJs, hF⟩ := hrel
        have hbx := hF.out.box HB.out (fun h => absurd (HLW.out _ h) (by omega))
        have c0 := cell_of_row wr _ 0 _ 105 (0, 0) hbx
        have c1 := cell_of_row wr _ 1 _ 105 (0, 0) hbx
        have c2 := cell_of_row wr _ 2 _ 105 (0, 0) hbx
        have c3 := cell_of_row wr _ 3 _ 105 (0, 0) hbx
        have HLO : Hid (∀ b, b < n₀ → wr.heap[b]? = W.heap[b]?) := Lib.hid fun b hb => (hF.out.only.block b (by have := HN.out; have := HZ.out; omega) (fun h => HD.out _ h hb)).trans (HO.out.block b (by have := HN.out; omega) (fun f => f))
        by_cases hlt : k < ids.length
        · obtain ⟨t, ht⟩ : ∃ t, ids[k]? = some t := ⟨_, List.getElem?_eq_getElem hlt⟩
          obtain ⟨b, off, pv, rfl, hbn, hbs, d0, d1, d2⟩ := HA.out k t ht
          replace d0 := (World.cell?_of_block (HLO.out b hbn)).trans d0
          replace d1 := (World.cell?_of_block (HLO.out b hbn)).trans d1
          replace d2 := (World.cell?_of_block (HLO.out b hbn)).trans d2
          obtain ⟨A2, cap2, rfl, hA2⟩ := hbs
          have HA2 := Lib.hid hA2
          have HT := Lib.hid ht
          have hpl : t.params.length ≤ 5 := HS.out.2 t (List.mem_of_getElem? ht)
          obtain ⟨W2, hW2⟩ : ∃ W2, wr.alloc (.cells #[.slice A2 t.params.length cap2, .bool t.result.cell, .int .i64 t.result.n] 64) = W2 := ⟨_, rfl⟩
          have o2 : Only (fun _ => False) wr W2 := by rw [← hW2]; exact (Only.refl _ _).alloc _
          have z2 : W2.heap.size = wr.heap.size + 1 := by rw [← hW2]; simp
          have b2 : W2.heap[wr.heap.size]? = some (.cells #[.slice A2 t.params.length cap2, .bool t.result.cell, .int .i64 t.result.n] 64 (0, 0)) := by rw [← hW2]; exact World.alloc_heap_new wr _
          have HO2 := Lib.hid o2
          have HZ2 := Lib.hid z2
          have HB2 := Lib.hid b2
          have e0 := cell_of_row W2 _ 0 _ 64 (0, 0) b2
          have e1 := cell_of_row W2 _ 1 _ 64 (0, 0) b2
          have e2 := cell_of_row W2 _ 2 _ 64 (0, 0) b2
          have hbx2 := (o2.block _ (Array.getElem?_eq_some_iff.1 hbx).1 (fun f => f)).trans hbx
          have g0 := cell_of_row W2 _ 0 _ 105 (0, 0) hbx2
          have g1 := cell_of_row W2 _ 1 _ 105 (0, 0) hbx2
          have g2 := cell_of_row W2 _ 2 _ 105 (0, 0) hbx2
          have g3 := cell_of_row W2 _ 3 _ 105 (0, 0) hbx2
          have HBX := Lib.hid hbx
          clear hbx hbx2 hA2 ht o2 z2 b2
          have HL3 : Hid (∀ k, R3 k → k < W2.heap.size) := Lib.hid fun k hk => by have := hF.out.lt k hk; have := HZ2.out; omega
          have HR3 : Hid (¬ R3 wr.heap.size) := Lib.hid fun h => absurd (hF.out.lt _ h) (by omega)
          have CY1 := Lib.hid (HE.out.next (x := ⟨t.result, ((k + 1 : Nat) : Int), 0, true || decide (0 < t.params.length)⟩) (pre := plLo (⟨ids, root, true⟩ : Ar) k) (by rw [← plLi_zero]; exact plLi_pre (⟨ids, root, true⟩ : Ar) k t HT.out 0) (by have := HZ.out; omega) hF.out hJs.out W2 (HO2.out.mono fun _ _ f => f.elim))
          rw [← plLi_zero] at CY1
          unfold plV at CY1
          simp only [Bool.true_or, Bool.false_or] at CY1
          push_cast at CY1
          gi_wp2_with (refine ⟨trivial, ?_⟩; gi_at_fn kf; refine (callsIn_wide.2 CY1.out.fn).mono ?_; rintro e w4 ⟨R4, hf4, (⟨rfl, hJ4⟩ | ⟨rfl, hJ4⟩)⟩ <;> (have hbq := hf4.box HB2.out HR3.out; have e0 := cell_of_row w4 _ 0 _ 64 (0, 0) hbq; have e1 := cell_of_row w4 _ 1 _ 64 (0, 0) hbq; have e2 := cell_of_row w4 _ 2 _ 64 (0, 0) hbq; clear hbq))
          · have HJ4 : Hid (J (plLi (⟨ids, root, true⟩ : Ar) k t 0) R4 w4) := Lib.hid hJ4
            have HF4 := Lib.hid hf4
            clear hJ4 hf4 g0 g1 g2 g3 c0 c1 c2 c3
            gi_wp2
            gi_loopw [47] (fun i wq => ∃ (j : Nat) (R5 : Sets), i = .int .i64 j ∧ j ≤ t.params.length ∧ Hid (J (plLi (⟨ids, root, true⟩ : Ar) k t j) R5 wq) ∧ Hid (Foot R3 W2 R5 wq)) (fun i _ => t.params.length - (intOf i).toNat)
            case atStart => exact ⟨0, R4, rfl, Nat.zero_le _, HJ4, HF4⟩
            case round =>
              obtain ⟨j, R5, rfl, hj, hJ5, hF5⟩ := hrel
              by_cases hlj : j < t.params.length
              · obtain ⟨x, hx⟩ : ∃ x, t.params[j]? = some x := ⟨_, List.getElem?_eq_getElem hlj⟩
                obtain ⟨b', off', rfl, hbn', q0, q1⟩ := HA2.out j x hx
                have hlow : wr.heap[b']? = W.heap[b']? := (hF5.out.only.block b' (by have := HN.out; have := HZ.out; have := hF.out.only.size; have := HZ2.out; omega) (fun h => (hF.out.sub _ h).elim (fun h => HD.out _ h hbn') (fun h => absurd hbn' (by have := HN.out; have := HZ.out; omega)))).trans ((HO2.out.block b' (by have := HN.out; have := HZ.out; have := hF.out.only.size; omega) (fun f => f)).trans (HLO.out b' hbn'))
                replace q0 := (World.cell?_of_block hlow).trans q0
                replace q1 := (World.cell?_of_block hlow).trans q1
                have HX := Lib.hid hx
                obtain ⟨W6, hW6⟩ : ∃ W6, wr.alloc (.cells #[.bool x.cell, .int .i64 x.n] 24) = W6 := ⟨_, rfl⟩
                have o6 : Only (fun _ => False) wr W6 := by rw [← hW6]; exact (Only.refl _ _).alloc _
                have b6 : W6.heap[wr.heap.size]? = some (.cells #[.bool x.cell, .int .i64 x.n] 24 (0, 0)) := by rw [← hW6]; exact World.alloc_heap_new wr _
                have p0 := cell_of_row W6 _ 0 _ 24 (0, 0) b6
                have p1 := cell_of_row W6 _ 1 _ 24 (0, 0) b6
                have HO6 := Lib.hid o6
                clear o6 b6 hlow hx
                have CY2 := Lib.hid (HE.out.next (x := ⟨x, ((k + 1 : Nat) : Int), ((j + 1 : Nat) : Int), true⟩) (pre := plLi (⟨ids, root, true⟩ : Ar) k t j) (by rw [← plLi_succ (⟨ids, root, true⟩ : Ar) k t j x HX.out]; exact plLi_pre (⟨ids, root, true⟩ : Ar) k t HT.out (j + 1)) (by have := HZ.out; have := hF.out.only.size; have := HZ2.out; omega) hF5.out hJ5.out W6 (HO6.out.mono fun _ _ f => f.elim))
                rw [← plLi_succ (⟨ids, root, true⟩ : Ar) k t j x HX.out] at CY2
                unfold plV at CY2
                push_cast at CY2
                gi_wp2_with (refine ⟨trivial, ?_⟩; gi_at_fn kf; refine (callsIn_wide.2 CY2.out.fn).mono ?_; rintro e w7 ⟨R7, hf7, (⟨rfl, hJ7⟩ | ⟨rfl, hJ7⟩)⟩)
                · go_roundw
                  case rel => exact ⟨j + 1, R7, rfl, by omega, Lib.hid hJ7, Lib.hid (hF5.out.trans (Foot.after HO6.out hf7))⟩
                  case measure => simp [intOf]; omega
                · refine bodyPost_ret (results_none rfl _ _ _) rfl ?_
                  exact ⟨⟨_, rfl⟩, R7, Foot.after HO.out (hF.out.trans (Foot.after HO2.out (hF5.out.trans (Foot.after HO6.out hf7)))), .inr ⟨_, plLi_pre (⟨ids, root, true⟩ : Ar) k t HT.out _, hJ7⟩⟩
              · gi_wp2
                go_roundw
                case rel => exact ⟨k + 1, R5, rfl, by omega, Lib.hid (by rw [← plLi_all (⟨ids, root, true⟩ : Ar) k t HT.out]; have e : j = t.params.length := by omega
                                                                         subst e; exact hJ5.out), Lib.hid (hF.out.trans (Foot.after HO2.out hF5.out))⟩
                case measure => simp [intOf]; omega
          · refine bodyPost_ret (results_none rfl _ _ _) rfl ?_
            exact ⟨⟨_, rfl⟩, R4, Foot.after HO.out (hF.out.trans (Foot.after HO2.out hf4)), .inr ⟨_, plLi_pre (⟨ids, root, true⟩ : Ar) k t HT.out 0, hJ4⟩⟩
        · gi_wp2
          go_end0
          refine ⟨⟨_, rfl⟩, R3, Foot.after HO.out hF.out, .inl ?_⟩
          rw [← plLo_all]
          have e : k = ids.length := by omega
          rw [← e]
          exact hJs.out
    · refine bodyPost_ret (results_none rfl _ _ _) rfl ?_
      exact ⟨⟨_, rfl⟩, R2, Foot.after HO.out hf2, .inr ⟨_, plLo_pre (⟨ids, root, true⟩ : Ar) 0, hJ2⟩⟩
  · refine callsIn_of_wp Tryz.func153 rfl trivial ?_ rfl
    simp only [Tryz.ntmps153, List.size_toArray, List.length_cons, List.length_nil, Nat.reduceAdd, Nat.reduceSub, Array.replicate_succ, Array.replicate_zero, List.push_toArray, List.append_toArray, List.nil_append, List.cons_append]
    obtain ⟨fn, tmps, assign, body, hy, hR⟩ := CY0.out.yield 2
    gi_wp2_with (refine hR.mono ?_; rintro e w3 ⟨R2, hf2, (⟨rfl, hJ2⟩ | ⟨rfl, hJ2⟩)⟩ <;> (have hbx := hf2.box HB.out (fun h => absurd (HLW.out _ h) (by omega)); have c0 := cell_of_row w3 _ 0 _ 105 (0, 0) hbx; have c1 := cell_of_row w3 _ 1 _ 105 (0, 0) hbx; have c2 := cell_of_row w3 _ 2 _ 105 (0, 0) hbx; have c3 := cell_of_row w3 _ 3 _ 105 (0, 0) hbx; clear hbx))
    · have HJ2 : Hid (J (plLo (⟨ids, root, true⟩ : Ar) 0) R2 w3) := Lib.hid hJ2
      have HF2 := Lib.hid hf2
      clear hJ2 hf2 hy hR
      gi_loopw [22] (fun i wr => ∃ (k : Nat) (R3 : Sets), i = .int .i64 k ∧ k ≤ ids.length ∧ Hid (J (plLo (⟨ids, root, true⟩ : Ar) k) R3 wr) ∧ Hid (Foot R W1 R3 wr)) (fun i _ => ids.length - (intOf i).toNat)
      case atStart => exact ⟨0, R2, rfl, Nat.zero_le _, HJ2, HF2⟩
      case round =>
        obtain ⟨k, R3, rfl, hk, hJs, hF⟩ := hrel
        have hbx := hF.out.box HB.out (fun h => absurd (HLW.out _ h) (by omega))
        have c0 := cell_of_row wr _ 0 _ 105 (0, 0) hbx
        have c1 := cell_of_row wr _ 1 _ 105 (0, 0) hbx
        have c2 := cell_of_row wr _ 2 _ 105 (0, 0) hbx
        have c3 := cell_of_row wr _ 3 _ 105 (0, 0) hbx
        have HLO : Hid (∀ b, b < n₀ → wr.heap[b]? = W.heap[b]?) := Lib.hid fun b hb => (hF.out.only.block b (by have := HN.out; have := HZ.out; omega) (fun h => HD.out _ h hb)).trans (HO.out.block b (by have := HN.out; omega) (fun f => f))
        by_cases hlt : k < ids.length
        · obtain ⟨t, ht⟩ : ∃ t, ids[k]? = some t := ⟨_, List.getElem?_eq_getElem hlt⟩
          obtain ⟨b, off, pv, rfl, hbn, hbs, d0, d1, d2⟩ := HA.out k t ht
          replace d0 := (World.cell?_of_block (HLO.out b hbn)).trans d0
          replace d1 := (World.cell?_of_block (HLO.out b hbn)).trans d1
          replace d2 := (World.cell?_of_block (HLO.out b hbn)).trans d2
          obtain ⟨A2, cap2, rfl, hA2⟩ := hbs
          have HA2 := Lib.hid hA2
          have HT := Lib.hid ht
          have hpl : t.params.length ≤ 5 := HS.out.2 t (List.mem_of_getElem? ht)
          obtain ⟨W2, hW2⟩ : ∃ W2, wr.alloc (.cells #[.slice A2 t.params.length cap2, .bool t.result.cell, .int .i64 t.result.n] 64) = W2 := ⟨_, rfl⟩
          have o2 : Only (fun _ => False) wr W2 := by rw [← hW2]; exact (Only.refl _ _).alloc _
          have z2 : W2.heap.size = wr.heap.size + 1 := by rw [← hW2]; simp
          have b2 : W2.heap[wr.heap.size]? = some (.cells #[.slice A2 t.params.length cap2, .bool t.result.cell, .int .i64 t.result.n] 64 (0, 0)) := by rw [← hW2]; exact World.alloc_heap_new wr _
          have HO2 := Lib.hid o2
          have HZ2 := Lib.hid z2
          have HB2 := Lib.hid b2
          have e0 := cell_of_row W2 _ 0 _ 64 (0, 0) b2
          have e1 := cell_of_row W2 _ 1 _ 64 (0, 0) b2
          have e2 := cell_of_row W2 _ 2 _ 64 (0, 0) b2
          have hbx2 := (o2.block _ (Array.getElem?_eq_some_iff.1 hbx).1 (fun f => f)).trans hbx
          have g0 := cell_of_row W2 _ 0 _ 105 (0, 0) hbx2
          have g1 := cell_of_row W2 _ 1 _ 105 (0, 0) hbx2
          have g2 := cell_of_row W2 _ 2 _ 105 (0, 0) hbx2
          have g3 := cell_of_row W2 _ 3 _ 105 (0, 0) hbx2
          have HBX := Lib.hid hbx
          clear hbx hbx2 hA2 ht o2 z2 b2
          have HL3 : Hid (∀ k, R3 k → k < W2.heap.size) := Lib.hid fun k hk => by have := hF.out.lt k hk; have := HZ2.out; omega
          have HR3 : Hid (¬ R3 wr.heap.size) := Lib.hid fun h => absurd (hF.out.lt _ h) (by omega)
          have CY1 := Lib.hid (HE.out.next (x := ⟨t.result, ((k + 1 : Nat) : Int), 0, true || decide (0 < t.params.length)⟩) (pre := plLo (⟨ids, root, true⟩ : Ar) k) (by rw [← plLi_zero]; exact plLi_pre (⟨ids, root, true⟩ : Ar) k t HT.out 0) (by have := HZ.out; omega) hF.out hJs.out W2 (HO2.out.mono fun _ _ f => f.elim))
          rw [← plLi_zero] at CY1
          unfold plV at CY1
          simp only [Bool.true_or, Bool.false_or] at CY1
          push_cast at CY1
          obtain ⟨fn, tmps, assign, body, hy, hR⟩ := CY1.out.yield 2
          gi_wp2_with (refine hR.mono ?_; rintro e w4 ⟨R4, hf4, (⟨rfl, hJ4⟩ | ⟨rfl, hJ4⟩)⟩ <;> (have hbq := hf4.box HB2.out HR3.out; have e0 := cell_of_row w4 _ 0 _ 64 (0, 0) hbq; have e1 := cell_of_row w4 _ 1 _ 64 (0, 0) hbq; have e2 := cell_of_row w4 _ 2 _ 64 (0, 0) hbq; clear hbq))
          · have HJ4 : Hid (J (plLi (⟨ids, root, true⟩ : Ar) k t 0) R4 w4) := Lib.hid hJ4
            have HF4 := Lib.hid hf4
            clear hJ4 hf4 g0 g1 g2 g3 c0 c1 c2 c3 hy hR
            gi_wp2
            gi_loopw [47] (fun i wq => ∃ (j : Nat) (R5 : Sets), i = .int .i64 j ∧ j ≤ t.params.length ∧ Hid (J (plLi (⟨ids, root, true⟩ : Ar) k t j) R5 wq) ∧ Hid (Foot R3 W2 R5 wq)) (fun i _ => t.params.length - (intOf i).toNat)
            case atStart => exact ⟨0, R4, rfl, Nat.zero_le _, HJ4, HF4⟩
            case round =>
              obtain ⟨j, R5, rfl, hj, hJ5, hF5⟩ := hrel
              by_cases hlj : j < t.params.length
              · obtain ⟨x, hx⟩ : ∃ x, t.params[j]? = some x := ⟨_, List.getElem?_eq_getElem hlj⟩
                obtain ⟨b', off', rfl, hbn', q0, q1⟩ := HA2.out j x hx
                have hlow : wr.heap[b']? = W.heap[b']? := (hF5.out.only.block b' (by have := HN.out; have := HZ.out; have := hF.out.only.size; have := HZ2.out; omega) (fun h => (hF.out.sub _ h).elim (fun h => HD.out _ h hbn') (fun h => absurd hbn' (by have := HN.out; have := HZ.out; omega)))).trans ((HO2.out.block b' (by have := HN.out; have := HZ.out; have := hF.out.only.size; omega) (fun f => f)).trans (HLO.out b' hbn'))
                replace q0 := (World.cell?_of_block hlow).trans q0
                replace q1 := (World.cell?_of_block hlow).trans q1
                have HX := Lib.hid hx
                obtain ⟨W6, hW6⟩ : ∃ W6, wr.alloc (.cells #[.bool x.cell, .int .i64 x.n] 24) = W6 := ⟨_, rfl⟩
                have o6 : Only (fun _ => False) wr W6 := by rw [← hW6]; exact (Only.refl _ _).alloc _
                have b6 : W6.heap[wr.heap.size]? = some (.cells #[.bool x.cell, .int .i64 x.n] 24 (0, 0)) := by rw [← hW6]; exact World.alloc_heap_new wr _
                have p0 := cell_of_row W6 _ 0 _ 24 (0, 0) b6
                have p1 := cell_of_row W6 _ 1 _ 24 (0, 0) b6
                have HO6 := Lib.hid o6
                clear o6 b6 hlow hx
                have CY2 := Lib.hid (HE.out.next (x := ⟨x, ((k + 1 : Nat) : Int), ((j + 1 : Nat) : Int), true⟩) (pre := plLi (⟨ids, root, true⟩ : Ar) k t j) (by rw [← plLi_succ (⟨ids, root, true⟩ : Ar) k t j x HX.out]; exact plLi_pre (⟨ids, root, true⟩ : Ar) k t HT.out (j + 1)) (by have := HZ.out; have := hF.out.only.size; have := HZ2.out; omega) hF5.out hJ5.out W6 (HO6.out.mono fun _ _ f => f.elim))
                rw [← plLi_succ (⟨ids, root, true⟩ : Ar) k t j x HX.out] at CY2
                unfold plV at CY2
                push_cast at CY2
                obtain ⟨fn, tmps, assign, body, hy, hR⟩ := CY2.out.yield 2
                gi_wp2_with (refine hR.mono ?_; rintro e w7 ⟨R7, hf7, (⟨rfl, hJ7⟩ | ⟨rfl, hJ7⟩)⟩)
                · go_roundw
                  case rel => exact ⟨j + 1, R7, rfl, by omega, Lib.hid hJ7, Lib.hid (hF5.out.trans (Foot.after HO6.out hf7))⟩
                  case measure => simp [intOf]; omega
                · refine bodyPost_ret (results_none rfl _ _ _) rfl ?_
                  exact ⟨⟨_, rfl⟩, R7, Foot.after HO.out (hF.out.trans (Foot.after HO2.out (hF5.out.trans (Foot.after HO6.out hf7)))), .inr ⟨_, plLi_pre (⟨ids, root, true⟩ : Ar) k t HT.out _, hJ7⟩⟩
              · gi_wp2
                go_roundw
                case rel => exact ⟨k + 1, R5, rfl, by omega, Lib.hid (by rw [← plLi_all (⟨ids, root, true⟩ : Ar) k t HT.out]; have e : j = t.params.length := by omega
                                                                         subst e; exact hJ5.out), Lib.hid (hF.out.trans (Foot.after HO2.out hF5.out))⟩
                case measure => simp [intOf]; omega
          · refine bodyPost_ret (results_none rfl _ _ _) rfl ?_
            exact ⟨⟨_, rfl⟩, R4, Foot.after HO.out (hF.out.trans (Foot.after HO2.out hf4)), .inr ⟨_, plLi_pre (⟨ids, root, true⟩ : Ar) k t HT.out 0, hJ4⟩⟩
        · gi_wp2
          go_end0
          refine ⟨⟨_, rfl⟩, R3, Foot.after HO.out hF.out, .inl ?_⟩
          rw [← plLo_all]
          have e : k = ids.length := by omega
          rw [← e]
          exact hJs.out
    · refine bodyPost_ret (results_none rfl _ _ _) rfl ?_
      exact ⟨⟨_, rfl⟩, R2, Foot.after HO.out hf2, .inr ⟨_, plLo_pre (⟨ids, root, true⟩ : Ar) 0, hJ2⟩⟩

set_option maxRecDepth 100000 in
set_option maxHeartbeats 2000000 in
theorem places_iters_false (v : Value) (ids : List Ty) (root : Bs) (n₀ : Nat) (w : World) (hs : smallAr (⟨ids, root, false⟩ : Ar)) (hn : n₀ ≤ w.heap.size) (hv : TyIn w n₀ v ids) :
    Iters Tryz.prog 153 (fun y => #[arV v root false, y]) (fun p => #[plV p]) (places (⟨ids, root, false⟩ : Ar)) (fun k => k < n₀) w := by
  intro y J Jx R W hE hle hown hdis hlt hJ
  have HV := Lib.hid (hv.below hown)
  have HE := Lib.hid hE
  have hf := hE.form
  obtain ⟨A, cap, rfl, hA⟩ := hv.below hown
  have HA := Lib.hid hA
  obtain ⟨W1, hW1⟩ : ∃ W1, W.alloc (.cells #[.slice A ids.length cap, .bool root.cell, .int .i64 root.n, .bool false] 105) = W1 := ⟨_, rfl⟩
  have o1 : Only (fun _ => False) W W1 := by rw [← hW1]; exact (Only.refl _ _).alloc _
  have z1 : W1.heap.size = W.heap.size + 1 := by rw [← hW1]; simp
  have b1 : W1.heap[W.heap.size]? = some (.cells #[.slice A ids.length cap, .bool root.cell, .int .i64 root.n, .bool false] 105 (0, 0)) := by rw [← hW1]; exact World.alloc_heap_new W _
  have HJ := Lib.hid (hE.stable [] R W W1 hJ (o1.mono fun _ _ f => f.elim))
  have hL1 : ∀ k, R k → k < W1.heap.size := fun k hk => by have := hlt k hk; omega
  have HL := Lib.hid hL1
  have HLW := Lib.hid hlt
  have HD := Lib.hid hdis
  have HO := Lib.hid o1
  have HZ := Lib.hid z1
  have HN := Lib.hid (Nat.le_trans hn hle)
  have HB := Lib.hid b1
  have c0 := cell_of_row W1 _ 0 _ 105 (0, 0) b1
  have c1 := cell_of_row W1 _ 1 _ 105 (0, 0) b1
  have c2 := cell_of_row W1 _ 2 _ 105 (0, 0) b1
  have c3 := cell_of_row W1 _ 3 _ 105 (0, 0) b1
  have hlen := hs.1
  have HS := Lib.hid hs
  have CY0 := Lib.hid (hE.next (x := ⟨root, 0, 0, false⟩) (plLo_pre (⟨ids, root, false⟩ : Ar) 0) (by omega) (Foot.refl hL1) HJ.out W1 (Only.refl _ _))
  unfold plV at CY0
  clear hE hJ hlt o1 z1 b1 hL1 hdis hA hs hn hle hv hown
  unfold arV
  refine (callsIn_wide (n := 3)).1 ?_
  rcases hf with ⟨kf, cp, rfl, ek⟩ | ⟨ly, rfl⟩
  · refine callsIn_of_wp Tryz.func153 rfl trivial ?_ rfl
    simp only [Tryz.ntmps153, List.size_toArray, List.length_cons, List.length_nil, Nat.reduceAdd, Nat.reduceSub, Array.replicate_succ, Array.replicate_zero, List.push_toArray, List.append_toArray, List.nil_append, List.cons_append]
    gi_wp2_with (refine ⟨trivial, ?_⟩; gi_at_fn kf; refine (callsIn_wide.2 CY0.out.fn).mono ?_; rintro e w3 ⟨R2, hf2, (⟨rfl, hJ2⟩ | ⟨rfl, hJ2⟩)⟩ <;> (have hbx := hf2.box HB.out (fun h => absurd (HLW.out _ h) (by omega)); have c0 := cell_of_row w3 _ 0 _ 105 (0, 0) hbx; have c1 := cell_of_row w3 _ 1 _ 105 (0, 0) hbx; have c2 := cell_of_row w3 _ 2 _ 105 (0, 0) hbx; have c3 := cell_of_row w3 _ 3 _ 105 (0, 0) hbx; clear hbx))
    · have HJ2 : Hid (J (plLo (⟨ids, root, false⟩ : Ar) 0) R2 w3) := Lib.hid hJ2
      have HF2 := Lib.hid hf2
      clear hJ2 hf2
      gi_loopw [22] (fun i wr => ∃ (k : Nat) (R3 : Sets), i = .int .i64 k ∧ k ≤ ids.length ∧ Hid (J (plLo (⟨ids, root, false⟩ : Ar) k) R3 wr) ∧ Hid (Foot R W1 R3 wr)) (fun i _ => ids.length - (intOf i).toNat)
      case atStart => exact ⟨0, R2, rfl, Nat.zero_le _, HJ2, HF2⟩
      case round =>
        obtain ⟨k, R3, rfl, hk, hJs, hF⟩ := hrel
        have hbx := hF.out.box HB.out (fun h => absurd (HLW.out _ h) (by omega))
        have c0 := cell_of_row wr _ 0 _ 105 (0, 0) hbx
        have c1 := cell_of_row wr _ 1 _ 105 (0, 0) hbx
        have c2 := cell_of_row wr _ 2 _ 105 (0, 0) hbx
        have c3 := cell_of_row wr _ 3 _ 105 (0, 0) hbx
        have HLO : Hid (∀ b, b < n₀ → wr.heap[b]? = W.heap[b]?) := Lib.hid fun b hb => (hF.out.only.block b (by have := HN.out; have := HZ.out; omega) (fun h => HD.out _ h hb)).trans (HO.out.block b (by have := HN.out; omega) (fun f => f))
        by_cases hlt : k < ids.length
        · obtain ⟨t, ht⟩ : ∃ t, ids[k]? = some t := ⟨_, List.getElem?_eq_getElem hlt⟩
          obtain ⟨b, off, pv, rfl, hbn, hbs, d0, d1, d2⟩ := HA.out k t ht
          replace d0 := (World.cell?_of_block (HLO.out b hbn)).trans d0
          replace d1 := (World.cell?_of_block (HLO.out b hbn)).trans d1
          replace d2 := (World.cell?_of_block (HLO.out b hbn)).trans d2
          obtain ⟨A2, cap2, rfl, hA2⟩ := hbs
          have HA2 := Lib.hid hA2
          have HT := Lib.hid ht
          have hpl : t.params.length ≤ 5 := HS.out.2 t (List.mem_of_getElem? ht)
          obtain ⟨W2, hW2⟩ : ∃ W2, wr.alloc (.cells #[.slice A2 t.params.length cap2, .bool t.result.cell, .int .i64 t.result.n] 64) = W2 := ⟨_, rfl⟩
          have o2 : Only (fun _ => False) wr W2 := by rw [← hW2]; exact (Only.refl _ _).alloc _
          have z2 : W2.heap.size = wr.heap.size + 1 := by rw [← hW2]; simp
          have b2 : W2.heap[wr.heap.size]? = some (.cells #[.slice A2 t.params.length cap2, .bool t.result.cell, .int .i64 t.result.n] 64 (0, 0)) := by rw [← hW2]; exact World.alloc_heap_new wr _
          have HO2 := Lib.hid o2
          have HZ2 := Lib.hid z2
          have HB2 := Lib.hid b2
          have e0 := cell_of_row W2 _ 0 _ 64 (0, 0) b2
          have e1 := cell_of_row W2 _ 1 _ 64 (0, 0) b2
          have e2 := cell_of_row W2 _ 2 _ 64 (0, 0) b2
          have hbx2 := (o2.block _ (Array.getElem?_eq_some_iff.1 hbx).1 (fun f => f)).trans hbx
          have g0 := cell_of_row W2 _ 0 _ 105 (0, 0) hbx2
          have g1 := cell_of_row W2 _ 1 _ 105 (0, 0) hbx2
          have g2 := cell_of_row W2 _ 2 _ 105 (0, 0) hbx2
          have g3 := cell_of_row W2 _ 3 _ 105 (0, 0) hbx2
          have HBX := Lib.hid hbx
          clear hbx hbx2 hA2 ht o2 z2 b2
          have HL3 : Hid (∀ k, R3 k → k < W2.heap.size) := Lib.hid fun k hk => by have := hF.out.lt k hk; have := HZ2.out; omega
          have HR3 : Hid (¬ R3 wr.heap.size) := Lib.hid fun h => absurd (hF.out.lt _ h) (by omega)
          have CY1 := Lib.hid (HE.out.next (x := ⟨t.result, ((k + 1 : Nat) : Int), 0, false || decide (0 < t.params.length)⟩) (pre := plLo (⟨ids, root, false⟩ : Ar) k) (by rw [← plLi_zero]; exact plLi_pre (⟨ids, root, false⟩ : Ar) k t HT.out 0) (by have := HZ.out; omega) hF.out hJs.out W2 (HO2.out.mono fun _ _ f => f.elim))
          rw [← plLi_zero] at CY1
          unfold plV at CY1
          simp only [Bool.true_or, Bool.false_or] at CY1
          push_cast at CY1
          gi_wp2_with (refine ⟨trivial, ?_⟩; gi_at_fn kf; refine (callsIn_wide.2 CY1.out.fn).mono ?_; rintro e w4 ⟨R4, hf4, (⟨rfl, hJ4⟩ | ⟨rfl, hJ4⟩)⟩ <;> (have hbq := hf4.box HB2.out HR3.out; have e0 := cell_of_row w4 _ 0 _ 64 (0, 0) hbq; have e1 := cell_of_row w4 _ 1 _ 64 (0, 0) hbq; have e2 := cell_of_row w4 _ 2 _ 64 (0, 0) hbq; clear hbq))
          · have HJ4 : Hid (J (plLi (⟨ids, root, false⟩ : Ar) k t 0) R4 w4) := Lib.hid hJ4
            have HF4 := Lib.hid hf4
            clear hJ4 hf4 g0 g1 g2 g3 c0 c1 c2 c3
            gi_wp2
            gi_loopw [47] (fun i wq => ∃ (j : Nat) (R5 : Sets), i = .int .i64 j ∧ j ≤ t.params.length ∧ Hid (J (plLi (⟨ids, root, false⟩ : Ar) k t j) R5 wq) ∧ Hid (Foot R3 W2 R5 wq)) (fun i _ => t.params.length - (intOf i).toNat)
            case atStart => exact ⟨0, R4, rfl, Nat.zero_le _, HJ4, HF4⟩
            case round =>
              obtain ⟨j, R5, rfl, hj, hJ5, hF5⟩ := hrel
              by_cases hlj : j < t.params.length
              · obtain ⟨x, hx⟩ : ∃ x, t.params[j]? = some x := ⟨_, List.getElem?_eq_getElem hlj⟩
                obtain ⟨b', off', rfl, hbn', q0, q1⟩ := HA2.out j x hx
                have hlow : wr.heap[b']? = W.heap[b']? := (hF5.out.only.block b' (by have := HN.out; have := HZ.out; have := hF.out.only.size; have := HZ2.out; omega) (fun h => (hF.out.sub _ h).elim (fun h => HD.out _ h hbn') (fun h => absurd hbn' (by have := HN.out; have := HZ.out; omega)))).trans ((HO2.out.block b' (by have := HN.out; have := HZ.out; have := hF.out.only.size; omega) (fun f => f)).trans (HLO.out b' hbn'))
                replace q0 := (World.cell?_of_block hlow).trans q0
                replace q1 := (World.cell?_of_block hlow).trans q1
                have HX := Lib.hid hx
                obtain ⟨W6, hW6⟩ : ∃ W6, wr.alloc (.cells #[.bool x.cell, .int .i64 x.n] 24) = W6 := ⟨_, rfl⟩
                have o6 : Only (fun _ => False) wr W6 := by rw [← hW6]; exact (Only.refl _ _).alloc _
                have b6 : W6.heap[wr.heap.size]? = some (.cells #[.bool x.cell, .int .i64 x.n] 24 (0, 0)) := by rw [← hW6]; exact World.alloc_heap_new wr _
                have p0 := cell_of_row W6 _ 0 _ 24 (0, 0) b6
                have p1 := cell_of_row W6 _ 1 _ 24 (0, 0) b6
                have HO6 := Lib.hid o6
                clear o6 b6 hlow hx
                have CY2 := Lib.hid (HE.out.next (x := ⟨x, ((k + 1 : Nat) : Int), ((j + 1 : Nat) : Int), true⟩) (pre := plLi (⟨ids, root, false⟩ : Ar) k t j) (by rw [← plLi_succ (⟨ids, root, false⟩ : Ar) k t j x HX.out]; exact plLi_pre (⟨ids, root, false⟩ : Ar) k t HT.out (j + 1)) (by have := HZ.out; have := hF.out.only.size; have := HZ2.out; omega) hF5.out hJ5.out W6 (HO6.out.mono fun _ _ f => f.elim))
                rw [← plLi_succ (⟨ids, root, false⟩ : Ar) k t j x HX.out] at CY2
                unfold plV at CY2
                push_cast at CY2
                gi_wp2_with (refine ⟨trivial, ?_⟩; gi_at_fn kf; refine (callsIn_wide.2 CY2.out.fn).mono ?_; rintro e w7 ⟨R7, hf7, (⟨rfl, hJ7⟩ | ⟨rfl, hJ7⟩)⟩)
                · go_roundw
                  case rel => exact ⟨j + 1, R7, rfl, by omega, Lib.hid hJ7, Lib.hid (hF5.out.trans (Foot.after HO6.out hf7))⟩
                  case measure => simp [intOf]; omega
                · refine bodyPost_ret (results_none rfl _ _ _) rfl ?_
                  exact ⟨⟨_, rfl⟩, R7, Foot.after HO.out (hF.out.trans (Foot.after HO2.out (hF5.out.trans (Foot.after HO6.out hf7)))), .inr ⟨_, plLi_pre (⟨ids, root, false⟩ : Ar) k t HT.out _, hJ7⟩⟩
              · gi_wp2
                go_roundw
                case rel => exact ⟨k + 1, R5, rfl, by omega, Lib.hid (by rw [← plLi_all (⟨ids, root, false⟩ : Ar) k t HT.out]; have e : j = t.params.length := by omega
                                                                         subst e; exact hJ5.out), Lib.hid (hF.out.trans (Foot.after HO2.out hF5.out))⟩
                case measure => simp [intOf]; omega
          · refine bodyPost_ret (results_none rfl _ _ _) rfl ?_
            exact ⟨⟨_, rfl⟩, R4, Foot.after HO.out (hF.out.trans (Foot.after HO2.out hf4)), .inr ⟨_, plLi_pre (⟨ids, root, false⟩ : Ar) k t HT.out 0, hJ4⟩⟩
        · gi_wp2
          go_end0
          refine ⟨⟨_, rfl⟩, R3, Foot.after HO.out hF.out, .inl ?_⟩
          rw [← plLo_all]
          have e : k = ids.length := by omega
          rw [← e]
          exact hJs.out
    · refine bodyPost_ret (results_none rfl _ _ _) rfl ?_
      exact ⟨⟨_, rfl⟩, R2, Foot.after HO.out hf2, .inr ⟨_, plLo_pre (⟨ids, root, false⟩ : Ar) 0, hJ2⟩⟩
  · refine callsIn_of_wp Tryz.func153 rfl trivial ?_ rfl
    simp only [Tryz.ntmps153, List.size_toArray, List.length_cons, List.length_nil, Nat.reduceAdd, Nat.reduceSub, Array.replicate_succ, Array.replicate_zero, List.push_toArray, List.append_toArray, List.nil_append, List.cons_append]
    obtain ⟨fn, tmps, assign, body, hy, hR⟩ := CY0.out.yield 2
    gi_wp2_with (refine hR.mono ?_; rintro e w3 ⟨R2, hf2, (⟨rfl, hJ2⟩ | ⟨rfl, hJ2⟩)⟩ <;> (have hbx := hf2.box HB.out (fun h => absurd (HLW.out _ h) (by omega)); have c0 := cell_of_row w3 _ 0 _ 105 (0, 0) hbx; have c1 := cell_of_row w3 _ 1 _ 105 (0, 0) hbx; have c2 := cell_of_row w3 _ 2 _ 105 (0, 0) hbx; have c3 := cell_of_row w3 _ 3 _ 105 (0, 0) hbx; clear hbx))
    · have HJ2 : Hid (J (plLo (⟨ids, root, false⟩ : Ar) 0) R2 w3) := Lib.hid hJ2
      have HF2 := Lib.hid hf2
      clear hJ2 hf2 hy hR
      gi_loopw [22] (fun i wr => ∃ (k : Nat) (R3 : Sets), i = .int .i64 k ∧ k ≤ ids.length ∧ Hid (J (plLo (⟨ids, root, false⟩ : Ar) k) R3 wr) ∧ Hid (Foot R W1 R3 wr)) (fun i _ => ids.length - (intOf i).toNat)
      case atStart => exact ⟨0, R2, rfl, Nat.zero_le _, HJ2, HF2⟩
      case round =>
        obtain ⟨k, R3, rfl, hk, hJs, hF⟩ := hrel
        have hbx := hF.out.box HB.out (fun h => absurd (HLW.out _ h) (by omega))
        have c0 := cell_of_row wr _ 0 _ 105 (0, 0) hbx
        have c1 := cell_of_row wr _ 1 _ 105 (0, 0) hbx
        have c2 := cell_of_row wr _ 2 _ 105 (0, 0) hbx
        have c3 := cell_of_row wr _ 3 _ 105 (0, 0) hbx
        have HLO : Hid (∀ b, b < n₀ → wr.heap[b]? = W.heap[b]?) := Lib.hid fun b hb => (hF.out.only.block b (by have := HN.out; have := HZ.out; omega) (fun h => HD.out _ h hb)).trans (HO.out.block b (by have := HN.out; omega) (fun f => f))
        by_cases hlt : k < ids.length
        · obtain ⟨t, ht⟩ : ∃ t, ids[k]? = some t := ⟨_, List.getElem?_eq_getElem hlt⟩
          obtain ⟨b, off, pv, rfl, hbn, hbs, d0, d1, d2⟩ := HA.out k t ht
          replace d0 := (World.cell?_of_block (HLO.out b hbn)).trans d0
          replace d1 := (World.cell?_of_block (HLO.out b hbn)).trans d1
          replace d2 := (World.cell?_of_block (HLO.out b hbn)).trans d2
          obtain ⟨A2, cap2, rfl, hA2⟩ := hbs
          have HA2 := Lib.hid hA2
          have HT := Lib.hid ht
          have hpl : t.params.length ≤ 5 := HS.out.2 t (List.mem_of_getElem? ht)
          obtain ⟨W2, hW2⟩ : ∃ W2, wr.alloc (.cells #[.slice A2 t.params.length cap2, .bool t.result.cell, .int .i64 t.result.n] 64) = W2 := ⟨_, rfl⟩
          have o2 : Only (fun _ => False) wr W2 := by rw [← hW2]; exact (Only.refl _ _).alloc _
          have z2 : W2.heap.size = wr.heap.size + 1 := by rw [← hW2]; simp
          have b2 : W2.heap[wr.heap.size]? = some (.cells #[.slice A2 t.params.length cap2, .bool t.result.cell, .int .i64 t.result.n] 64 (0, 0)) := by rw [← hW2]; exact World.alloc_heap_new wr _
          have HO2 := Lib.hid o2
          have HZ2 := Lib.hid z2
          have HB2 := Lib.hid b2
          have e0 := cell_of_row W2 _ 0 _ 64 (0, 0) b2
          have e1 := cell_of_row W2 _ 1 _ 64 (0, 0) b2
          have e2 := cell_of_row W2 _ 2 _ 64 (0, 0) b2
          have hbx2 := (o2.block _ (Array.getElem?_eq_some_iff.1 hbx).1 (fun f => f)).trans hbx
          have g0 := cell_of_row W2 _ 0 _ 105 (0, 0) hbx2
          have g1 := cell_of_row W2 _ 1 _ 105 (0, 0) hbx2
          have g2 := cell_of_row W2 _ 2 _ 105 (0, 0) hbx2
          have g3 := cell_of_row W2 _ 3 _ 105 (0, 0) hbx2
          have HBX := Lib.hid hbx
          clear hbx hbx2 hA2 ht o2 z2 b2
          have HL3 : Hid (∀ k, R3 k → k < W2.heap.size) := Lib.hid fun k hk => by have := hF.out.lt k hk; have := HZ2.out; omega
          have HR3 : Hid (¬ R3 wr.heap.size) := Lib.hid fun h => absurd (hF.out.lt _ h) (by omega)
          have CY1 := Lib.hid (HE.out.next (x := ⟨t.result, ((k + 1 : Nat) : Int), 0, false || decide (0 < t.params.length)⟩) (pre := plLo (⟨ids, root, false⟩ : Ar) k) (by rw [← plLi_zero]; exact plLi_pre (⟨ids, root, false⟩ : Ar) k t HT.out 0) (by have := HZ.out; omega) hF.out hJs.out W2 (HO2.out.mono fun _ _ f => f.elim))
          rw [← plLi_zero] at CY1
          unfold plV at CY1
          simp only [Bool.true_or, Bool.false_or] at CY1
          push_cast at CY1
          obtain ⟨fn, tmps, assign, body, hy, hR⟩ := CY1.out.yield 2
          gi_wp2_with (refine hR.mono ?_; rintro e w4 ⟨R4, hf4, (⟨rfl, hJ4⟩ | ⟨rfl, hJ4⟩)⟩ <;> (have hbq := hf4.box HB2.out HR3.out; have e0 := cell_of_row w4 _ 0 _ 64 (0, 0) hbq; have e1 := cell_of_row w4 _ 1 _ 64 (0, 0) hbq; have e2 := cell_of_row w4 _ 2 _ 64 (0, 0) hbq; clear hbq))
          · have HJ4 : Hid (J (plLi (⟨ids, root, false⟩ : Ar) k t 0) R4 w4) := Lib.hid hJ4
            have HF4 := Lib.hid hf4
            clear hJ4 hf4 g0 g1 g2 g3 c0 c1 c2 c3 hy hR
            gi_wp2
            gi_loopw [47] (fun i wq => ∃ (j : Nat) (R5 : Sets), i = .int .i64 j ∧ j ≤ t.params.length ∧ Hid (J (plLi (⟨ids, root, false⟩ : Ar) k t j) R5 wq) ∧ Hid (Foot R3 W2 R5 wq)) (fun i _ => t.params.length - (intOf i).toNat)
            case atStart => exact ⟨0, R4, rfl, Nat.zero_le _, HJ4, HF4⟩
            case round =>
              obtain ⟨j, R5, rfl, hj, hJ5, hF5⟩ := hrel
              by_cases hlj : j < t.params.length
              · obtain ⟨x, hx⟩ : ∃ x, t.params[j]? = some x := ⟨_, List.getElem?_eq_getElem hlj⟩
                obtain ⟨b', off', rfl, hbn', q0, q1⟩ := HA2.out j x hx
                have hlow : wr.heap[b']? = W.heap[b']? := (hF5.out.only.block b' (by have := HN.out; have := HZ.out; have := hF.out.only.size; have := HZ2.out; omega) (fun h => (hF.out.sub _ h).elim (fun h => HD.out _ h hbn') (fun h => absurd hbn' (by have := HN.out; have := HZ.out; omega)))).trans ((HO2.out.block b' (by have := HN.out; have := HZ.out; have := hF.out.only.size; omega) (fun f => f)).trans (HLO.out b' hbn'))
                replace q0 := (World.cell?_of_block hlow).trans q0
                replace q1 := (World.cell?_of_block hlow).trans q1
                have HX := Lib.hid hx
                obtain ⟨W6, hW6⟩ : ∃ W6, wr.alloc (.cells #[.bool x.cell, .int .i64 x.n] 24) = W6 := ⟨_, rfl⟩
                have o6 : Only (fun _ => False) wr W6 := by rw [← hW6]; exact (Only.refl _ _).alloc _
                have b6 : W6.heap[wr.heap.size]? = some (.cells #[.bool x.cell, .int .i64 x.n] 24 (0, 0)) := by rw [← hW6]; exact World.alloc_heap_new wr _
                have p0 := cell_of_row W6 _ 0 _ 24 (0, 0) b6
                have p1 := cell_of_row W6 _ 1 _ 24 (0, 0) b6
                have HO6 := Lib.hid o6
                clear o6 b6 hlow hx
                have CY2 := Lib.hid (HE.out.next (x := ⟨x, ((k + 1 : Nat) : Int), ((j + 1 : Nat) : Int), true⟩) (pre := plLi (⟨ids, root, false⟩ : Ar) k t j) (by rw [← plLi_succ (⟨ids, root, false⟩ : Ar) k t j x HX.out]; exact plLi_pre (⟨ids, root, false⟩ : Ar) k t HT.out (j + 1)) (by have := HZ.out; have := hF.out.only.size; have := HZ2.out; omega) hF5.out hJ5.out W6 (HO6.out.mono fun _ _ f => f.elim))
                rw [← plLi_succ (⟨ids, root, false⟩ : Ar) k t j x HX.out] at CY2
                unfold plV at CY2
                push_cast at CY2
                obtain ⟨fn, tmps, assign, body, hy, hR⟩ := CY2.out.yield 2
                gi_wp2_with (refine hR.mono ?_; rintro e w7 ⟨R7, hf7, (⟨rfl, hJ7⟩ | ⟨rfl, hJ7⟩)⟩)
                · go_roundw
                  case rel => exact ⟨j + 1, R7, rfl, by omega, Lib.hid hJ7, Lib.hid (hF5.out.trans (Foot.after HO6.out hf7))⟩
                  case measure => simp [intOf]; omega
                · refine bodyPost_ret (results_none rfl _ _ _) rfl ?_
                  exact ⟨⟨_, rfl⟩, R7, Foot.after HO.out (hF.out.trans (Foot.after HO2.out (hF5.out.trans (Foot.after HO6.out hf7)))), .inr ⟨_, plLi_pre (⟨ids, root, false⟩ : Ar) k t HT.out _, hJ7⟩⟩
              · gi_wp2
                go_roundw
                case rel => exact ⟨k + 1, R5, rfl, by omega, Lib.hid (by rw [← plLi_all (⟨ids, root, false⟩ : Ar) k t HT.out]; have e : j = t.params.length := by omega
                                                                         subst e; exact hJ5.out), Lib.hid (hF.out.trans (Foot.after HO2.out hF5.out))⟩
                case measure => simp [intOf]; omega
          · refine bodyPost_ret (results_none rfl _ _ _) rfl ?_
            exact ⟨⟨_, rfl⟩, R4, Foot.after HO.out (hF.out.trans (Foot.after HO2.out hf4)), .inr ⟨_, plLi_pre (⟨ids, root, false⟩ : Ar) k t HT.out 0, hJ4⟩⟩
        · gi_wp2
          go_end0
          refine ⟨⟨_, rfl⟩, R3, Foot.after HO.out hF.out, .inl ?_⟩
          rw [← plLo_all]
          have e : k = ids.length := by omega
          rw [← e]
          exact hJs.out
    · refine bodyPost_ret (results_none rfl _ _ _) rfl ?_
      exact ⟨⟨_, rfl⟩, R2, Foot.after HO.out hf2, .inr ⟨_, plLo_pre (⟨ids, root, false⟩ : Ar) 0, hJ2⟩⟩

theorem places_iters (v : Value) (a : Ar) (n₀ : Nat) (w : World) (hs : smallAr a) (hn : n₀ ≤ w.heap.size) (hv : TyIn w n₀ v a.ids) :
    Iters Tryz.prog 153 (fun y => #[arV v a.root a.jumps, y]) (fun p => #[plV p]) (places a) (fun k => k < n₀) w := by
  obtain ⟨ids, root, ju⟩ := a
  cases ju
  · exact places_iters_false v ids root n₀ w hs hn hv
  · exact places_iters_true v ids root n₀ w hs hn hv
end Go.Proofs.YtklfojmflmablaaGreatDoor
