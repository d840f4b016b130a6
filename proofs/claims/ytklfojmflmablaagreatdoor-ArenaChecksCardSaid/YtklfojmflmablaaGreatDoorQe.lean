/- The reference: Told. -/
import Derived.Test.YtklfojmflmablaaGreatDoorQd
namespace Go.Proofs.YtklfojmflmablaaGreatDoor
open Go Go.RowKit Go.Shelf

def escL (id arg : Int) (e : Bool) : List Mv := if e then [⟨id, arg, 3, -1⟩] else []
theorem answ_esc (b : Bs) (id arg n : Int) (j : Bool) : answ ⟨b, id, arg, j⟩ n = escL id arg j ++ vals id arg 3 n.toNat := rfl

set_option maxRecDepth 100000 in
set_option maxHeartbeats 2000000 in
theorem toldAsk_any (v : Value) (a : Ar) (id arg : Int) (w : World) (hck : checkRes a = 0) (hv : TyIn w w.heap.size v a.ids) :
    Calls Tryz.prog 97 #[arV v a.root a.jumps, .int .i64 id, .int .i64 arg, .int .u8 1] w fun e w' => ∃ v', e = .returned v' ∧ OwnMv w' w.heap.size v' (refT a id arg true) ∧ Below w.heap.size w w' := by
  obtain ⟨hs, _, _⟩ := check_small hck
  have hl8 := hs.1
  have hl : a.ids.length ≤ 1000 := by omega
  have hpl : ∀ t ∈ a.ids, t.params.length ≤ 1000 := fun t ht => by have := hs.2 t ht; omega
  have CP : Hid (∀ W, Below w.heap.size w W → Calls Tryz.prog 104 #[arV v a.root a.jumps, .int .i64 id, .int .i64 arg] W fun e w' => e = .returned (.tuple #[bsV (placeR (placeOf a id arg)).1, .bool (placeR (placeOf a id arg)).2]) ∧ Below W.heap.size W w') :=
    Lib.hid fun W hW => refPlace_any v a id arg W hl hpl (tyIn_later hv hW)
  obtain ⟨i0, hi, hz0, hz1, hz2⟩ := info_parts info40
  have HV := Lib.hid hv
  obtain ⟨A, c, rfl⟩ := tyIn_slice hv
  obtain ⟨w1, hw1⟩ : ∃ w1, w.alloc (.cells #[.slice A a.ids.length c, .bool a.root.cell, .int .i64 a.root.n, .bool a.jumps] 26) = w1 := ⟨_, rfl⟩
  have hb : Below w.heap.size w w1 := by rw [← hw1]; exact (Below.refl _ w).alloc (Nat.le_refl _) _
  have x0 : BoxA w1 w.heap.size (.slice A a.ids.length c) a.root a.jumps := by rw [← hw1]; exact World.alloc_heap_new w _
  have HB := Lib.hid hb
  have HX0 := Lib.hid x0
  have c0 := cell_of_row w1 _ 0 _ 26 (0, 0) x0
  have c1 := cell_of_row w1 _ 1 _ 26 (0, 0) x0
  have c2 := cell_of_row w1 _ 2 _ 26 (0, 0) x0
  have c3 := cell_of_row w1 _ 3 _ 26 (0, 0) x0
  cases hp : placeOf a id arg with
  | none =>
    have HR : Hid (refT a id arg true = []) := Lib.hid (by unfold refT; rw [hp])
    rw [hp] at CP
    unfold placeR bsV zeroBs at CP
    unfold arV at CP ⊢
    clear hp hb x0 hv hs hl hpl
    go_enter Tryz.func97, Tryz.ntmps97
    go_wp2_with (go_at_call 104; refine (CP.out _ HB.out).mono ?_; rintro e w2 ⟨rfl, hb2⟩)
    go_ret
    rw [HR.out]
    exact ⟨_, rfl, OwnMv.nil _ _, HB.out.trans ((hb2.trans ((Below.refl _ w2).alloc (Nat.le_refl _) _ |>.mono hb2.size)).mono HB.out.size)⟩
  | some b =>
    obtain ⟨hb1, hb64, hid⟩ := place_right hck hp
    have CE : Hid (∀ W, Below w.heap.size w W → Calls Tryz.prog 166 #[arV (.slice A a.ids.length c) a.root a.jumps, .int .i64 id, .int .i64 arg] W fun e w' => e = .returned (.bool (jumpsAt a id arg)) ∧ Below W.heap.size W w') :=
      Lib.hid fun W hW => escapes_any _ a id arg W hl hpl (tyIn_later HV.out hW) hid
    have HR : Hid (refT a id arg true = escL id arg (jumpsAt a id arg) ++ vals id arg 3 (b.n).toNat) := Lib.hid (by unfold refT; rw [hp]; rfl)
    rw [hp] at CP
    unfold placeR bsV at CP
    unfold arV at CP CE ⊢
    dsimp only at CP
    obtain ⟨bc, bn⟩ := b
    dsimp only at CP HR hb1 hb64
    obtain ⟨n, rfl⟩ : ∃ n : Nat, bn = n := ⟨bn.toNat, by omega⟩
    clear hp hck hb x0 hv hs hl hpl hid
    cases hJ : jumpsAt a id arg with
    | false =>
      rw [hJ] at CE HR
      clear hJ
      go_enter Tryz.func97, Tryz.ntmps97
      go_wp2_with (first
        | (go_at_call 104; refine (CP.out _ HB.out).mono ?_; rintro e w2 ⟨rfl, hb2⟩; obtain ⟨W3, hW3⟩ : ∃ W3, w2.alloc (.cells #[.bool bc, .int .i64 n] 24) = W3 := ⟨_, rfl⟩; have hb3 : Below w1.heap.size w1 W3 := named_below hW3 hb2; have z3 : BoxB W3 w2.heap.size ⟨bc, n⟩ := named_box hW3; have HZ3 := Lib.hid z3; have HX3 : Hid (BoxA W3 _ _ _ _) := Lib.hid ((hb3.block _ HX0.out.lt).trans HX0.out); have d0 := cell_of_row W3 _ 0 _ 26 (0, 0) HX3.out; have d1 := cell_of_row W3 _ 1 _ 26 (0, 0) HX3.out; have d2 := cell_of_row W3 _ 2 _ 26 (0, 0) HX3.out; have d3 := cell_of_row W3 _ 3 _ 26 (0, 0) HX3.out; have HLT : Hid (w.heap.size ≤ w2.heap.size) := Lib.hid (Nat.le_trans HB.out.size hb2.size); have HLT3 : Hid (w2.heap.size < W3.heap.size) := Lib.hid z3.lt; have HB3 := Lib.hid (HB.out.trans (hb3.mono HB.out.size)); clear hb2 hb3 z3)
        | (go_at_call 166; refine (CE.out _ HB3.out).mono ?_; rintro e W4 ⟨rfl, hb4⟩; have HZ4 : Hid (BoxB W4 w2.heap.size ⟨bc, n⟩) := Lib.hid ((hb4.block _ HZ3.out.lt).trans HZ3.out); have HG4 : Hid (W3.heap.size ≤ W4.heap.size) := Lib.hid hb4.size; have HB4 := Lib.hid (HB3.out.trans (hb4.mono HB3.out.size)); clear hb4))
      go_loopw [11, 12] (fun u k wr => ∃ (j : Nat) (l : List Mv), k = .int .i64 j ∧ j ≤ n ∧ Hid (l = escL id arg false ++ vals id arg 3 j) ∧ Hid (wr.ownsRow W3.heap.size 40 4 u l.length (mvCells l)) ∧ Hid (BoxB wr w2.heap.size ⟨bc, n⟩) ∧ Hid (W3.heap.size ≤ wr.heap.size) ∧ Hid (Below w.heap.size w wr)) (fun _ k _ => n - (intOf k).toNat)
      case atStart => exact ⟨0, [], rfl, Nat.zero_le _, Lib.hid rfl, Lib.hid (World.ownsRow_nil _ _ _ _), HZ4, HG4, HB4⟩
      case round =>
        obtain ⟨j, l, rfl, hj, HLL, HRW, HZ, HG, hB⟩ := hrel
        have g1 := cell_of_row wr _ 1 _ 24 (0, 0) HZ.out
        have hll : l.length ≤ j + 1 := by rw [HLL.out]; unfold escL; split <;> simp [vals_length]
        obtain ⟨uA, un, uc, rfl, hun⟩ := mv_slice HRW.out
        have HLN := Lib.hid hll
        clear hll hun
        by_cases hlt : j < n
        · have hk1 : ((1 : Int) == 1) = true := rfl
          by_cases hj0 : j = 0
          · have hjz : ((j : Int) == 0) = true := by simp [hj0]
            clear hj0
            go_wp2_with (at_builtin; refine wpList_append_own_at _ rfl _ _ 32 rfl W3.heap.size 40 i0 _ 4 32 Tryz.underlying32 hi hz0 hz1 hz2 rfl (by decide) _ _ _ rfl (HRW.out.alloc _) ⟨wr.heap.size, 0, none⟩ 1 1 [.int .i64 id, .int .i64 arg, .int .u8 3, .int .i64 j] rfl rfl (cells_new _ _ _) (by simp [Value.oneCell']) (by have := HLN.out; unfold maxLen; omega) (by have := HLN.out; omega) (by have := HG.out; simp; omega) ?_; intro v' w5 hown' hgrow _ hat; have HO := Lib.hid (mv_app (m := ⟨id, arg, 3, j⟩) hown' rfl); have HB5 := Lib.hid ((hB.out.alloc hB.out.size _).grown hgrow (by have := hB.out.size; simp; omega) (fun k e => by have := (rowAt HRW.out e).1; have := HLT.out; have := HLT3.out; omega)); have HZ5 := Lib.hid ((hgrow.block _ (by have := HZ.out.lt; simp; omega) (fun e => by have := (rowAt HRW.out e.symm).1; have := HLT3.out; omega)).trans ((Below.heap_alloc _ _ _ HZ.out.lt).trans HZ.out)); have HG5 : Hid (W3.heap.size ≤ w5.heap.size) := Lib.hid (by have := hgrow.size; have := HG.out; simp at *; omega); clear hown' hgrow hat)
            go_roundw
            case rel => exact ⟨j + 1, _, by simp, by omega, Lib.hid (by rw [HLL.out, vals_succ, List.append_assoc]), HO, HZ5, HG5, HB5⟩
            case measure => simp [intOf]; omega
          · have hjz : ((j : Int) == 0) = false := by simp; omega
            go_wp2_with (at_builtin; refine wpList_append_own_at _ rfl _ _ 32 rfl W3.heap.size 40 i0 _ 4 32 Tryz.underlying32 hi hz0 hz1 hz2 rfl (by decide) _ _ _ rfl (HRW.out.alloc _) ⟨wr.heap.size, 0, none⟩ 1 1 [.int .i64 id, .int .i64 arg, .int .u8 3, .int .i64 j] rfl rfl (cells_new _ _ _) (by simp [Value.oneCell']) (by have := HLN.out; unfold maxLen; omega) (by have := HLN.out; omega) (by have := HG.out; simp; omega) ?_; intro v' w5 hown' hgrow _ hat; have HO := Lib.hid (mv_app (m := ⟨id, arg, 3, j⟩) hown' rfl); have HB5 := Lib.hid ((hB.out.alloc hB.out.size _).grown hgrow (by have := hB.out.size; simp; omega) (fun k e => by have := (rowAt HRW.out e).1; have := HLT.out; have := HLT3.out; omega)); have HZ5 := Lib.hid ((hgrow.block _ (by have := HZ.out.lt; simp; omega) (fun e => by have := (rowAt HRW.out e.symm).1; have := HLT3.out; omega)).trans ((Below.heap_alloc _ _ _ HZ.out.lt).trans HZ.out)); have HG5 : Hid (W3.heap.size ≤ w5.heap.size) := Lib.hid (by have := hgrow.size; have := HG.out; simp at *; omega); clear hown' hgrow hat)
            go_roundw
            case rel => exact ⟨j + 1, _, by simp, by omega, Lib.hid (by rw [HLL.out, vals_succ, List.append_assoc]), HO, HZ5, HG5, HB5⟩
            case measure => simp [intOf]; omega
        · obtain rfl : n = j := by omega
          go_wp2
          go_ret
          rw [show refT a id arg true = l from by rw [HR.out, HLL.out]; rfl]
          exact ⟨.slice uA un uc, rfl, rowMv_less HRW.out (by have := HLT.out; have := HLT3.out; omega), hB.out⟩
    | true =>
      rw [hJ] at CE HR
      clear hJ
      go_enter Tryz.func97, Tryz.ntmps97
      go_wp2_with (first
        | (go_at_call 104; refine (CP.out _ HB.out).mono ?_; rintro e w2 ⟨rfl, hb2⟩; obtain ⟨W3, hW3⟩ : ∃ W3, w2.alloc (.cells #[.bool bc, .int .i64 n] 24) = W3 := ⟨_, rfl⟩; have hb3 : Below w1.heap.size w1 W3 := named_below hW3 hb2; have z3 : BoxB W3 w2.heap.size ⟨bc, n⟩ := named_box hW3; have HZ3 := Lib.hid z3; have HX3 : Hid (BoxA W3 _ _ _ _) := Lib.hid ((hb3.block _ HX0.out.lt).trans HX0.out); have d0 := cell_of_row W3 _ 0 _ 26 (0, 0) HX3.out; have d1 := cell_of_row W3 _ 1 _ 26 (0, 0) HX3.out; have d2 := cell_of_row W3 _ 2 _ 26 (0, 0) HX3.out; have d3 := cell_of_row W3 _ 3 _ 26 (0, 0) HX3.out; have HLT : Hid (w.heap.size ≤ w2.heap.size) := Lib.hid (Nat.le_trans HB.out.size hb2.size); have HLT3 : Hid (w2.heap.size < W3.heap.size) := Lib.hid z3.lt; have HB3 := Lib.hid (HB.out.trans (hb3.mono HB.out.size)); clear hb2 hb3 z3)
        | (go_at_call 166; refine (CE.out _ HB3.out).mono ?_; rintro e W4 ⟨rfl, hb4⟩; have HZ4 : Hid (BoxB W4 w2.heap.size ⟨bc, n⟩) := Lib.hid ((hb4.block _ HZ3.out.lt).trans HZ3.out); have HG4 : Hid (W3.heap.size ≤ W4.heap.size) := Lib.hid hb4.size; have HB4 := Lib.hid (HB3.out.trans (hb4.mono HB3.out.size)); clear hb4)
        | (at_builtin; refine wpList_append_own_at _ rfl _ _ 32 rfl W3.heap.size 40 i0 _ 4 32 Tryz.underlying32 hi hz0 hz1 hz2 rfl (by decide) _ 0 [] rfl (World.ownsRow_nil _ _ _ _) ⟨W4.heap.size, 0, none⟩ 1 1 [.int .i64 id, .int .i64 arg, .int .u8 3, .int .i64 (-1)] rfl rfl (cells_new _ _ _) (by simp [Value.oneCell']) (by unfold maxLen; omega) (by omega) (by have := HG4.out; simp; omega) ?_; intro v' w5 hown' hgrow _ hat; have HO3 := Lib.hid (mv_app (l := []) (m := ⟨id, arg, 3, -1⟩) hown' rfl); have HB5 := Lib.hid ((HB4.out.alloc HB4.out.size _).grown hgrow (by have := HB4.out.size; simp; omega) (fun k e => by cases e)); have HZ5 := Lib.hid ((hgrow.block _ (by have := HZ4.out.lt; simp; omega) (fun e => by cases e)).trans ((Below.heap_alloc _ _ _ HZ4.out.lt).trans HZ4.out)); have HG5 : Hid (W3.heap.size ≤ w5.heap.size) := Lib.hid (by have := hgrow.size; have := HG4.out; simp at *; omega); clear hown' hgrow hat))
      go_loopw [11, 12] (fun u k wr => ∃ (j : Nat) (l : List Mv), k = .int .i64 j ∧ j ≤ n ∧ Hid (l = escL id arg true ++ vals id arg 3 j) ∧ Hid (wr.ownsRow W3.heap.size 40 4 u l.length (mvCells l)) ∧ Hid (BoxB wr w2.heap.size ⟨bc, n⟩) ∧ Hid (W3.heap.size ≤ wr.heap.size) ∧ Hid (Below w.heap.size w wr)) (fun _ k _ => n - (intOf k).toNat)
      case atStart => exact ⟨0, [⟨id, arg, 3, -1⟩], rfl, Nat.zero_le _, Lib.hid rfl, HO3, HZ5, HG5, HB5⟩
      case round =>
        obtain ⟨j, l, rfl, hj, HLL, HRW, HZ, HG, hB⟩ := hrel
        have g1 := cell_of_row wr _ 1 _ 24 (0, 0) HZ.out
        have hll : l.length ≤ j + 1 := by rw [HLL.out]; unfold escL; split <;> simp [vals_length]
        obtain ⟨uA, un, uc, rfl, hun⟩ := mv_slice HRW.out
        have HLN := Lib.hid hll
        clear hll hun
        by_cases hlt : j < n
        · have hk1 : ((1 : Int) == 1) = true := rfl
          by_cases hj0 : j = 0
          · have hjz : ((j : Int) == 0) = true := by simp [hj0]
            clear hj0
            go_wp2_with (at_builtin; refine wpList_append_own_at _ rfl _ _ 32 rfl W3.heap.size 40 i0 _ 4 32 Tryz.underlying32 hi hz0 hz1 hz2 rfl (by decide) _ _ _ rfl (HRW.out.alloc _) ⟨wr.heap.size, 0, none⟩ 1 1 [.int .i64 id, .int .i64 arg, .int .u8 3, .int .i64 j] rfl rfl (cells_new _ _ _) (by simp [Value.oneCell']) (by have := HLN.out; unfold maxLen; omega) (by have := HLN.out; omega) (by have := HG.out; simp; omega) ?_; intro v' w5 hown' hgrow _ hat; have HO := Lib.hid (mv_app (m := ⟨id, arg, 3, j⟩) hown' rfl); have HB5 := Lib.hid ((hB.out.alloc hB.out.size _).grown hgrow (by have := hB.out.size; simp; omega) (fun k e => by have := (rowAt HRW.out e).1; have := HLT.out; have := HLT3.out; omega)); have HZ5 := Lib.hid ((hgrow.block _ (by have := HZ.out.lt; simp; omega) (fun e => by have := (rowAt HRW.out e.symm).1; have := HLT3.out; omega)).trans ((Below.heap_alloc _ _ _ HZ.out.lt).trans HZ.out)); have HG5 : Hid (W3.heap.size ≤ w5.heap.size) := Lib.hid (by have := hgrow.size; have := HG.out; simp at *; omega); clear hown' hgrow hat)
            go_roundw
            case rel => exact ⟨j + 1, _, by simp, by omega, Lib.hid (by rw [HLL.out, vals_succ, List.append_assoc]), HO, HZ5, HG5, HB5⟩
            case measure => simp [intOf]; omega
          · have hjz : ((j : Int) == 0) = false := by simp; omega
            go_wp2_with (at_builtin; refine wpList_append_own_at _ rfl _ _ 32 rfl W3.heap.size 40 i0 _ 4 32 Tryz.underlying32 hi hz0 hz1 hz2 rfl (by decide) _ _ _ rfl (HRW.out.alloc _) ⟨wr.heap.size, 0, none⟩ 1 1 [.int .i64 id, .int .i64 arg, .int .u8 3, .int .i64 j] rfl rfl (cells_new _ _ _) (by simp [Value.oneCell']) (by have := HLN.out; unfold maxLen; omega) (by have := HLN.out; omega) (by have := HG.out; simp; omega) ?_; intro v' w5 hown' hgrow _ hat; have HO := Lib.hid (mv_app (m := ⟨id, arg, 3, j⟩) hown' rfl); have HB5 := Lib.hid ((hB.out.alloc hB.out.size _).grown hgrow (by have := hB.out.size; simp; omega) (fun k e => by have := (rowAt HRW.out e).1; have := HLT.out; have := HLT3.out; omega)); have HZ5 := Lib.hid ((hgrow.block _ (by have := HZ.out.lt; simp; omega) (fun e => by have := (rowAt HRW.out e.symm).1; have := HLT3.out; omega)).trans ((Below.heap_alloc _ _ _ HZ.out.lt).trans HZ.out)); have HG5 : Hid (W3.heap.size ≤ w5.heap.size) := Lib.hid (by have := hgrow.size; have := HG.out; simp at *; omega); clear hown' hgrow hat)
            go_roundw
            case rel => exact ⟨j + 1, _, by simp, by omega, Lib.hid (by rw [HLL.out, vals_succ, List.append_assoc]), HO, HZ5, HG5, HB5⟩
            case measure => simp [intOf]; omega
        · obtain rfl : n = j := by omega
          go_wp2
          go_ret
          rw [show refT a id arg true = l from by rw [HR.out, HLL.out]; rfl]
          exact ⟨.slice uA un uc, rfl, rowMv_less HRW.out (by have := HLT.out; have := HLT3.out; omega), hB.out⟩

set_option maxRecDepth 100000 in
set_option maxHeartbeats 2000000 in
theorem toldPut_any (v : Value) (a : Ar) (id arg : Int) (k0 : Int) (hk0 : k0 ≠ 1) (w : World) (hck : checkRes a = 0) (hv : TyIn w w.heap.size v a.ids) :
    Calls Tryz.prog 97 #[arV v a.root a.jumps, .int .i64 id, .int .i64 arg, .int .u8 k0] w fun e w' => ∃ v', e = .returned v' ∧ OwnMv w' w.heap.size v' (refT a id arg false) ∧ Below w.heap.size w w' := by
  obtain ⟨hs, _, _⟩ := check_small hck
  have hl8 := hs.1
  have hl : a.ids.length ≤ 1000 := by omega
  have hpl : ∀ t ∈ a.ids, t.params.length ≤ 1000 := fun t ht => by have := hs.2 t ht; omega
  have CP : Hid (∀ W, Below w.heap.size w W → Calls Tryz.prog 104 #[arV v a.root a.jumps, .int .i64 id, .int .i64 arg] W fun e w' => e = .returned (.tuple #[bsV (placeR (placeOf a id arg)).1, .bool (placeR (placeOf a id arg)).2]) ∧ Below W.heap.size W w') :=
    Lib.hid fun W hW => refPlace_any v a id arg W hl hpl (tyIn_later hv hW)
  obtain ⟨i0, hi, hz0, hz1, hz2⟩ := info_parts info40
  have HV := Lib.hid hv
  obtain ⟨A, c, rfl⟩ := tyIn_slice hv
  obtain ⟨w1, hw1⟩ : ∃ w1, w.alloc (.cells #[.slice A a.ids.length c, .bool a.root.cell, .int .i64 a.root.n, .bool a.jumps] 26) = w1 := ⟨_, rfl⟩
  have hb : Below w.heap.size w w1 := by rw [← hw1]; exact (Below.refl _ w).alloc (Nat.le_refl _) _
  have x0 : BoxA w1 w.heap.size (.slice A a.ids.length c) a.root a.jumps := by rw [← hw1]; exact World.alloc_heap_new w _
  have HB := Lib.hid hb
  have HX0 := Lib.hid x0
  have c0 := cell_of_row w1 _ 0 _ 26 (0, 0) x0
  have c1 := cell_of_row w1 _ 1 _ 26 (0, 0) x0
  have c2 := cell_of_row w1 _ 2 _ 26 (0, 0) x0
  have c3 := cell_of_row w1 _ 3 _ 26 (0, 0) x0
  have HK := Lib.hid hk0
  cases hp : placeOf a id arg with
  | none =>
    have HR : Hid (refT a id arg false = []) := Lib.hid (by unfold refT; rw [hp])
    rw [hp] at CP
    unfold placeR bsV zeroBs at CP
    unfold arV at CP ⊢
    clear hp hb x0 hv hs hl hpl
    go_enter Tryz.func97, Tryz.ntmps97
    go_wp2_with (go_at_call 104; refine (CP.out _ HB.out).mono ?_; rintro e w2 ⟨rfl, hb2⟩)
    go_ret
    rw [HR.out]
    exact ⟨_, rfl, OwnMv.nil _ _, HB.out.trans ((hb2.trans ((Below.refl _ w2).alloc (Nat.le_refl _) _ |>.mono hb2.size)).mono HB.out.size)⟩
  | some b =>
    obtain ⟨hb1, hb64, hid⟩ := place_right hck hp
    have CE : Hid (∀ W, Below w.heap.size w W → Calls Tryz.prog 166 #[arV (.slice A a.ids.length c) a.root a.jumps, .int .i64 id, .int .i64 arg] W fun e w' => e = .returned (.bool (jumpsAt a id arg)) ∧ Below W.heap.size W w') :=
      Lib.hid fun W hW => escapes_any _ a id arg W hl hpl (tyIn_later HV.out hW) hid
    have HR : Hid (refT a id arg false = escL id arg (jumpsAt a id arg) ++ vals id arg 3 ((1 : Int)).toNat) := Lib.hid (by unfold refT; rw [hp]; rfl)
    rw [hp] at CP
    unfold placeR bsV at CP
    unfold arV at CP CE ⊢
    dsimp only at CP
    obtain ⟨bc, bn⟩ := b
    dsimp only at CP HR hb1 hb64
    obtain ⟨n, rfl⟩ : ∃ n : Nat, bn = n := ⟨bn.toNat, by omega⟩
    clear hp hck hb x0 hv hs hl hpl hid
    cases hJ : jumpsAt a id arg with
    | false =>
      rw [hJ] at CE HR
      clear hJ
      go_enter Tryz.func97, Tryz.ntmps97
      go_wp2_with (first
        | (go_at_call 104; refine (CP.out _ HB.out).mono ?_; rintro e w2 ⟨rfl, hb2⟩; obtain ⟨W3, hW3⟩ : ∃ W3, w2.alloc (.cells #[.bool bc, .int .i64 n] 24) = W3 := ⟨_, rfl⟩; have hb3 : Below w1.heap.size w1 W3 := named_below hW3 hb2; have z3 : BoxB W3 w2.heap.size ⟨bc, n⟩ := named_box hW3; have HZ3 := Lib.hid z3; have HX3 : Hid (BoxA W3 _ _ _ _) := Lib.hid ((hb3.block _ HX0.out.lt).trans HX0.out); have d0 := cell_of_row W3 _ 0 _ 26 (0, 0) HX3.out; have d1 := cell_of_row W3 _ 1 _ 26 (0, 0) HX3.out; have d2 := cell_of_row W3 _ 2 _ 26 (0, 0) HX3.out; have d3 := cell_of_row W3 _ 3 _ 26 (0, 0) HX3.out; have HLT : Hid (w.heap.size ≤ w2.heap.size) := Lib.hid (Nat.le_trans HB.out.size hb2.size); have HLT3 : Hid (w2.heap.size < W3.heap.size) := Lib.hid z3.lt; have HB3 := Lib.hid (HB.out.trans (hb3.mono HB.out.size)); clear hb2 hb3 z3)
        | (go_at_call 166; refine (CE.out _ HB3.out).mono ?_; rintro e W4 ⟨rfl, hb4⟩; have HZ4 : Hid (BoxB W4 w2.heap.size ⟨bc, n⟩) := Lib.hid ((hb4.block _ HZ3.out.lt).trans HZ3.out); have HG4 : Hid (W3.heap.size ≤ W4.heap.size) := Lib.hid hb4.size; have HB4 := Lib.hid (HB3.out.trans (hb4.mono HB3.out.size)); clear hb4))
      go_loopw [11, 12] (fun u k wr => ∃ (j : Nat) (l : List Mv), k = .int .i64 j ∧ j ≤ 1 ∧ Hid (l = escL id arg false ++ vals id arg 3 j) ∧ Hid (wr.ownsRow W3.heap.size 40 4 u l.length (mvCells l)) ∧ Hid (BoxB wr w2.heap.size ⟨bc, n⟩) ∧ Hid (W3.heap.size ≤ wr.heap.size) ∧ Hid (Below w.heap.size w wr)) (fun _ k _ => 1 - (intOf k).toNat)
      case atStart => exact ⟨0, [], rfl, Nat.zero_le _, Lib.hid rfl, Lib.hid (World.ownsRow_nil _ _ _ _), HZ4, HG4, HB4⟩
      case round =>
        obtain ⟨j, l, rfl, hj, HLL, HRW, HZ, HG, hB⟩ := hrel
        have g1 := cell_of_row wr _ 1 _ 24 (0, 0) HZ.out
        have hll : l.length ≤ j + 1 := by rw [HLL.out]; unfold escL; split <;> simp [vals_length]
        obtain ⟨uA, un, uc, rfl, hun⟩ := mv_slice HRW.out
        have HLN := Lib.hid hll
        clear hll hun
        by_cases hj0 : j = 0
        · have hjz : ((j : Int) == 0) = true := by simp [hj0]
          have hlt : (j : Int) < (n : Int) := by omega
          have HJ0 := Lib.hid hj0
          clear hj0
          go_wp2_with (at_builtin; refine wpList_append_own_at _ rfl _ _ 32 rfl W3.heap.size 40 i0 _ 4 32 Tryz.underlying32 hi hz0 hz1 hz2 rfl (by decide) _ _ _ rfl (HRW.out.alloc _) ⟨wr.heap.size, 0, none⟩ 1 1 [.int .i64 id, .int .i64 arg, .int .u8 3, .int .i64 j] rfl rfl (cells_new _ _ _) (by simp [Value.oneCell']) (by have := HLN.out; unfold maxLen; omega) (by have := HLN.out; omega) (by have := HG.out; simp; omega) ?_; intro v' w5 hown' hgrow _ hat; have HO := Lib.hid (mv_app (m := ⟨id, arg, 3, j⟩) hown' rfl); have HB5 := Lib.hid ((hB.out.alloc hB.out.size _).grown hgrow (by have := hB.out.size; simp; omega) (fun k e => by have := (rowAt HRW.out e).1; have := HLT.out; have := HLT3.out; omega)); have HZ5 := Lib.hid ((hgrow.block _ (by have := HZ.out.lt; simp; omega) (fun e => by have := (rowAt HRW.out e.symm).1; have := HLT3.out; omega)).trans ((Below.heap_alloc _ _ _ HZ.out.lt).trans HZ.out)); have HG5 : Hid (W3.heap.size ≤ w5.heap.size) := Lib.hid (by have := hgrow.size; have := HG.out; simp at *; omega); clear hown' hgrow hat)
          go_roundw
          case rel => exact ⟨j + 1, _, by simp, by have := HJ0.out; omega, Lib.hid (by rw [HLL.out, vals_succ, List.append_assoc]), HO, HZ5, HG5, HB5⟩
          case measure => have := HJ0.out; simp [intOf]; omega
        · obtain rfl : j = 1 := by omega
          by_cases hlt : 1 < n
          · have hk1 : (k0 == 1) = false := by simpa using HK.out
            go_wp2
            go_ret
            rw [show refT a id arg false = l from by rw [HR.out, HLL.out]; rfl]
            exact ⟨.slice uA un uc, rfl, rowMv_less HRW.out (by have := HLT.out; have := HLT3.out; omega), hB.out⟩
          · have hlt2 : ¬ ((1 : Int) < (n : Int)) := by omega
            go_wp2
            go_ret
            rw [show refT a id arg false = l from by rw [HR.out, HLL.out]; rfl]
            exact ⟨.slice uA un uc, rfl, rowMv_less HRW.out (by have := HLT.out; have := HLT3.out; omega), hB.out⟩
    | true =>
      rw [hJ] at CE HR
      clear hJ
      go_enter Tryz.func97, Tryz.ntmps97
      go_wp2_with (first
        | (go_at_call 104; refine (CP.out _ HB.out).mono ?_; rintro e w2 ⟨rfl, hb2⟩; obtain ⟨W3, hW3⟩ : ∃ W3, w2.alloc (.cells #[.bool bc, .int .i64 n] 24) = W3 := ⟨_, rfl⟩; have hb3 : Below w1.heap.size w1 W3 := named_below hW3 hb2; have z3 : BoxB W3 w2.heap.size ⟨bc, n⟩ := named_box hW3; have HZ3 := Lib.hid z3; have HX3 : Hid (BoxA W3 _ _ _ _) := Lib.hid ((hb3.block _ HX0.out.lt).trans HX0.out); have d0 := cell_of_row W3 _ 0 _ 26 (0, 0) HX3.out; have d1 := cell_of_row W3 _ 1 _ 26 (0, 0) HX3.out; have d2 := cell_of_row W3 _ 2 _ 26 (0, 0) HX3.out; have d3 := cell_of_row W3 _ 3 _ 26 (0, 0) HX3.out; have HLT : Hid (w.heap.size ≤ w2.heap.size) := Lib.hid (Nat.le_trans HB.out.size hb2.size); have HLT3 : Hid (w2.heap.size < W3.heap.size) := Lib.hid z3.lt; have HB3 := Lib.hid (HB.out.trans (hb3.mono HB.out.size)); clear hb2 hb3 z3)
        | (go_at_call 166; refine (CE.out _ HB3.out).mono ?_; rintro e W4 ⟨rfl, hb4⟩; have HZ4 : Hid (BoxB W4 w2.heap.size ⟨bc, n⟩) := Lib.hid ((hb4.block _ HZ3.out.lt).trans HZ3.out); have HG4 : Hid (W3.heap.size ≤ W4.heap.size) := Lib.hid hb4.size; have HB4 := Lib.hid (HB3.out.trans (hb4.mono HB3.out.size)); clear hb4)
        | (at_builtin; refine wpList_append_own_at _ rfl _ _ 32 rfl W3.heap.size 40 i0 _ 4 32 Tryz.underlying32 hi hz0 hz1 hz2 rfl (by decide) _ 0 [] rfl (World.ownsRow_nil _ _ _ _) ⟨W4.heap.size, 0, none⟩ 1 1 [.int .i64 id, .int .i64 arg, .int .u8 3, .int .i64 (-1)] rfl rfl (cells_new _ _ _) (by simp [Value.oneCell']) (by unfold maxLen; omega) (by omega) (by have := HG4.out; simp; omega) ?_; intro v' w5 hown' hgrow _ hat; have HO3 := Lib.hid (mv_app (l := []) (m := ⟨id, arg, 3, -1⟩) hown' rfl); have HB5 := Lib.hid ((HB4.out.alloc HB4.out.size _).grown hgrow (by have := HB4.out.size; simp; omega) (fun k e => by cases e)); have HZ5 := Lib.hid ((hgrow.block _ (by have := HZ4.out.lt; simp; omega) (fun e => by cases e)).trans ((Below.heap_alloc _ _ _ HZ4.out.lt).trans HZ4.out)); have HG5 : Hid (W3.heap.size ≤ w5.heap.size) := Lib.hid (by have := hgrow.size; have := HG4.out; simp at *; omega); clear hown' hgrow hat))
      go_loopw [11, 12] (fun u k wr => ∃ (j : Nat) (l : List Mv), k = .int .i64 j ∧ j ≤ 1 ∧ Hid (l = escL id arg true ++ vals id arg 3 j) ∧ Hid (wr.ownsRow W3.heap.size 40 4 u l.length (mvCells l)) ∧ Hid (BoxB wr w2.heap.size ⟨bc, n⟩) ∧ Hid (W3.heap.size ≤ wr.heap.size) ∧ Hid (Below w.heap.size w wr)) (fun _ k _ => 1 - (intOf k).toNat)
      case atStart => exact ⟨0, [⟨id, arg, 3, -1⟩], rfl, Nat.zero_le _, Lib.hid rfl, HO3, HZ5, HG5, HB5⟩
      case round =>
        obtain ⟨j, l, rfl, hj, HLL, HRW, HZ, HG, hB⟩ := hrel
        have g1 := cell_of_row wr _ 1 _ 24 (0, 0) HZ.out
        have hll : l.length ≤ j + 1 := by rw [HLL.out]; unfold escL; split <;> simp [vals_length]
        obtain ⟨uA, un, uc, rfl, hun⟩ := mv_slice HRW.out
        have HLN := Lib.hid hll
        clear hll hun
        by_cases hj0 : j = 0
        · have hjz : ((j : Int) == 0) = true := by simp [hj0]
          have hlt : (j : Int) < (n : Int) := by omega
          have HJ0 := Lib.hid hj0
          clear hj0
          go_wp2_with (at_builtin; refine wpList_append_own_at _ rfl _ _ 32 rfl W3.heap.size 40 i0 _ 4 32 Tryz.underlying32 hi hz0 hz1 hz2 rfl (by decide) _ _ _ rfl (HRW.out.alloc _) ⟨wr.heap.size, 0, none⟩ 1 1 [.int .i64 id, .int .i64 arg, .int .u8 3, .int .i64 j] rfl rfl (cells_new _ _ _) (by simp [Value.oneCell']) (by have := HLN.out; unfold maxLen; omega) (by have := HLN.out; omega) (by have := HG.out; simp; omega) ?_; intro v' w5 hown' hgrow _ hat; have HO := Lib.hid (mv_app (m := ⟨id, arg, 3, j⟩) hown' rfl); have HB5 := Lib.hid ((hB.out.alloc hB.out.size _).grown hgrow (by have := hB.out.size; simp; omega) (fun k e => by have := (rowAt HRW.out e).1; have := HLT.out; have := HLT3.out; omega)); have HZ5 := Lib.hid ((hgrow.block _ (by have := HZ.out.lt; simp; omega) (fun e => by have := (rowAt HRW.out e.symm).1; have := HLT3.out; omega)).trans ((Below.heap_alloc _ _ _ HZ.out.lt).trans HZ.out)); have HG5 : Hid (W3.heap.size ≤ w5.heap.size) := Lib.hid (by have := hgrow.size; have := HG.out; simp at *; omega); clear hown' hgrow hat)
          go_roundw
          case rel => exact ⟨j + 1, _, by simp, by have := HJ0.out; omega, Lib.hid (by rw [HLL.out, vals_succ, List.append_assoc]), HO, HZ5, HG5, HB5⟩
          case measure => have := HJ0.out; simp [intOf]; omega
        · obtain rfl : j = 1 := by omega
          by_cases hlt : 1 < n
          · have hk1 : (k0 == 1) = false := by simpa using HK.out
            go_wp2
            go_ret
            rw [show refT a id arg false = l from by rw [HR.out, HLL.out]; rfl]
            exact ⟨.slice uA un uc, rfl, rowMv_less HRW.out (by have := HLT.out; have := HLT3.out; omega), hB.out⟩
          · have hlt2 : ¬ ((1 : Int) < (n : Int)) := by omega
            go_wp2
            go_ret
            rw [show refT a id arg false = l from by rw [HR.out, HLL.out]; rfl]
            exact ⟨.slice uA un uc, rfl, rowMv_less HRW.out (by have := HLT.out; have := HLT3.out; omega), hB.out⟩
end Go.Proofs.YtklfojmflmablaaGreatDoor
