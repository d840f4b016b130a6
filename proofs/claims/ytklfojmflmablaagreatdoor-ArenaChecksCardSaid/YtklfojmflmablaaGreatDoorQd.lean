/- The reference: Questions. -/
import Derived.Test.YtklfojmflmablaaGreatDoorGq
import Derived.Test.YtklfojmflmablaaGreatDoorWr
namespace Go.Proofs.YtklfojmflmablaaGreatDoor
open Go Go.RowKit Go.Shelf

theorem named_below {W w W' : World} {o : Obj} (e : w.alloc o = W') (h : Below W.heap.size W w) : Below W.heap.size W W' := e ▸ h.alloc h.size _
theorem named_box {w W' : World} {o : Obj} (e : w.alloc o = W') : W'.heap[w.heap.size]? = some o := e ▸ World.alloc_heap_new w o
theorem named_later {w W' : World} {o : Obj} (e : w.alloc o = W') : Below w.heap.size w W' := e ▸ (Below.refl _ w).alloc (Nat.le_refl _) _
theorem place_right {a : Ar} {id arg : Int} {b : Bs} (hc : checkRes a = 0) (h : placeOf a id arg = some b) : 1 ≤ b.n ∧ b.n ≤ 64 ∧ id ≤ a.ids.length := by
  obtain ⟨hs, hr, ht⟩ := check_small hc
  have key : ∀ t ∈ a.ids, okBs t.result = true ∧ ∀ b ∈ t.params, okBs b = true := fun t hm => by
    have := ht t hm
    unfold okTy at this
    simp only [Bool.and_eq_true, List.all_eq_true] at this
    exact this.2
  unfold placeOf at h
  split at h
  · rename_i h0
    cases h
    exact ⟨(okBs_n hr).1, (okBs_n hr).2, by omega⟩
  · split at h
    · cases h
    · rename_i h1
      split at h
      · cases h
      · rename_i t hti
        have hm := key t (List.mem_of_getElem? hti)
        split at h
        · cases h
          exact ⟨(okBs_n hm.1).1, (okBs_n hm.1).2, by omega⟩
        · split at h
          · cases h
          · have := okBs_n (hm.2 b (List.mem_of_getElem? h))
            exact ⟨this.1, this.2, by omega⟩
theorem own_mv1 (W : World) (n : Nat) (m : Mv) (hn : n ≤ W.heap.size) : (W.alloc (.cells #[.int .i64 m.id, .int .i64 m.arg, .int .u8 m.kind, .int .i64 m.n] 40)).ownsRow n 40 4 (.slice (some ⟨W.heap.size, 0, none⟩) 1 1) 1 (mvCells [m]) :=
  ⟨rfl, .inr ⟨W.heap.size, 1, _, rfl, hn, World.alloc_heap_new W _, Nat.le_refl _, by unfold maxLen; omega, rfl, rfl⟩⟩
theorem own_row {W W' : World} {n : Nat} (m : Mv) (e : W.alloc (.cells #[.int .i64 m.id, .int .i64 m.arg, .int .u8 m.kind, .int .i64 m.n] 40) = W') (hn : n ≤ W.heap.size) : W'.ownsRow n 40 4 (.slice (some ⟨W.heap.size, 0, none⟩) 1 1) 1 (mvCells [m]) := e ▸ own_mv1 W n m hn
theorem mv_app {W : World} {n k : Nat} {v : Value} {l : List Mv} {m : Mv} (h : W.ownsRow n 40 4 v (k + 1) (mvCells l ++ [.int .i64 m.id, .int .i64 m.arg, .int .u8 m.kind, .int .i64 m.n])) (hk : k = l.length) : OwnMv W n v (l ++ [m]) := by
  unfold OwnMv
  rw [mvCells_append, List.length_append, ← hk]
  exact h
theorem mv_slice {W : World} {n : Nat} {v : Value} {l : List Mv} (h : OwnMv W n v l) : ∃ A k c, v = .slice A k c ∧ k = l.length := by
  rcases h.2 with ⟨rfl, h0⟩ | ⟨g, cap, cur, rfl, _⟩
  · exact ⟨none, 0, 0, rfl, h0.symm⟩
  · exact ⟨_, _, _, rfl, rfl⟩
theorem valsN (id arg kind : Int) (n : Int) (h : 0 ≤ n) (k : Nat) (hk : (k : Int) = n) : vals id arg kind n.toNat = vals id arg kind k := by rw [show n.toNat = k by omega]

set_option maxRecDepth 100000 in
set_option maxHeartbeats 1000000 in
theorem questions_any (v : Value) (a : Ar) (id arg : Int) (w : World) (hck : checkRes a = 0) (hv : TyIn w w.heap.size v a.ids) :
    Calls Tryz.prog 99 #[arV v a.root a.jumps, .int .i64 id, .int .i64 arg] w fun e w' => ∃ v', e = .returned v' ∧ OwnMv w' w.heap.size v' (refQ a id arg) ∧ Below w.heap.size w w' := by
  obtain ⟨hs, _, _⟩ := check_small hck
  have hl8 := hs.1
  have hl : a.ids.length ≤ 1000 := by omega
  have hpl : ∀ t ∈ a.ids, t.params.length ≤ 1000 := fun t ht => by have := hs.2 t ht; omega
  have CP : Hid (∀ W, Below w.heap.size w W → Calls Tryz.prog 104 #[arV v a.root a.jumps, .int .i64 id, .int .i64 arg] W fun e w' => e = .returned (.tuple #[bsV (placeR (placeOf a id arg)).1, .bool (placeR (placeOf a id arg)).2]) ∧ Below W.heap.size W w') :=
    Lib.hid fun W hW => refPlace_any v a id arg W hl hpl (tyIn_later hv hW)
  obtain ⟨i0, hi, hz0, hz1, hz2⟩ := info_parts info40
  obtain ⟨A, c, rfl⟩ := tyIn_slice hv
  obtain ⟨w1, hw1⟩ : ∃ w1, w.alloc (.cells #[.slice A a.ids.length c, .bool a.root.cell, .int .i64 a.root.n, .bool a.jumps] 26) = w1 := ⟨_, rfl⟩
  have hb : Below w.heap.size w w1 := by rw [← hw1]; exact (Below.refl _ w).alloc (Nat.le_refl _) _
  have x0 : BoxA w1 w.heap.size (.slice A a.ids.length c) a.root a.jumps := by rw [← hw1]; exact World.alloc_heap_new w _
  have HB := Lib.hid hb
  have c0 := cell_of_row w1 _ 0 _ 26 (0, 0) x0
  have c1 := cell_of_row w1 _ 1 _ 26 (0, 0) x0
  have c2 := cell_of_row w1 _ 2 _ 26 (0, 0) x0
  have c3 := cell_of_row w1 _ 3 _ 26 (0, 0) x0
  unfold arV at CP ⊢
  clear hb x0 hv hs hl hpl
  cases hp : placeOf a id arg with
  | none =>
    have HR : Hid (refQ a id arg = []) := Lib.hid (by unfold refQ; rw [hp])
    rw [hp] at CP
    unfold placeR bsV zeroBs at CP
    clear hp
    go_enter Tryz.func99, Tryz.ntmps99
    go_wp2_with (go_at_call 104; refine (CP.out _ HB.out).mono ?_; rintro e w2 ⟨rfl, hb2⟩)
    go_ret
    rw [HR.out]
    exact ⟨_, rfl, OwnMv.nil _ _, HB.out.trans ((hb2.trans ((Below.refl _ w2).alloc (Nat.le_refl _) _ |>.mono hb2.size)).mono HB.out.size)⟩
  | some b =>
    obtain ⟨hb1, hb64, _⟩ := place_right hck hp
    have HR : Hid (refQ a id arg = ⟨id, arg, 1, 0⟩ :: (if b.cell then vals id arg 2 b.n.toNat else [])) := Lib.hid (by unfold refQ; rw [hp]; rfl)
    rw [hp] at CP
    unfold placeR bsV at CP
    dsimp only at CP
    obtain ⟨bc, bn⟩ := b
    dsimp only at CP HR hb1 hb64
    obtain ⟨n, rfl⟩ : ∃ n : Nat, bn = n := ⟨bn.toNat, by omega⟩
    rw [show ((n : Int)).toNat = n from rfl] at HR
    clear hp hck
    cases bc with
    | false =>
      go_enter Tryz.func99, Tryz.ntmps99
      go_wp2_with (go_at_call 104; refine (CP.out _ HB.out).mono ?_; rintro e w2 ⟨rfl, hb2⟩; obtain ⟨W3, hW3⟩ : ∃ W3, w2.alloc (.cells #[.bool false, .int .i64 n] 24) = W3 := ⟨_, rfl⟩; have hb3 : Below w1.heap.size w1 W3 := named_below hW3 hb2; have z3 : BoxB W3 w2.heap.size ⟨false, n⟩ := named_box hW3; have f0 := cell_of_row W3 _ 0 _ 24 (0, 0) z3; have f1 := cell_of_row W3 _ 1 _ 24 (0, 0) z3; obtain ⟨W4, hW4⟩ : ∃ W4, W3.alloc (.cells #[.int .i64 id, .int .i64 arg, .int .u8 1, .int .i64 0] 40) = W4 := ⟨_, rfl⟩; have hb4 : Below w1.heap.size w1 W4 := named_below hW4 hb3; have hz4 : BoxB W4 w2.heap.size ⟨false, n⟩ := ((named_later hW4).block _ z3.lt).trans z3; have g0 := cell_of_row W4 _ 0 _ 24 (0, 0) hz4; have g1 := cell_of_row W4 _ 1 _ 24 (0, 0) hz4; have hown4 := own_row ⟨id, arg, 1, 0⟩ hW4 (Nat.le_trans HB.out.size hb3.size); have HOWN := Lib.hid hown4; have HB4 := Lib.hid (HB.out.trans (hb4.mono HB.out.size)); clear hb2 hb3 z3 hb4 hz4 hown4)
      go_loopw [9, 10] (fun u k wr => u = .slice (some ⟨W3.heap.size, 0, none⟩) 1 1 ∧ k = .int .i64 0 ∧ W4 = wr) (fun _ _ _ => 0)
      case atStart => exact ⟨rfl, rfl, rfl⟩
      case round =>
        obtain ⟨rfl, rfl, rfl⟩ := hrel
        go_wp2
        go_ret
        rw [show refQ a id arg = [⟨id, arg, 1, 0⟩] from HR.out.trans rfl]
        exact ⟨.slice (some ⟨W3.heap.size, 0, none⟩) 1 1, rfl, HOWN.out, HB4.out⟩
    | true =>
      go_enter Tryz.func99, Tryz.ntmps99
      go_wp2_with (go_at_call 104; refine (CP.out _ HB.out).mono ?_; rintro e w2 ⟨rfl, hb2⟩; obtain ⟨W3, hW3⟩ : ∃ W3, w2.alloc (.cells #[.bool true, .int .i64 n] 24) = W3 := ⟨_, rfl⟩; have hb3 : Below w1.heap.size w1 W3 := named_below hW3 hb2; have z3 : BoxB W3 w2.heap.size ⟨true, n⟩ := named_box hW3; have f0 := cell_of_row W3 _ 0 _ 24 (0, 0) z3; have f1 := cell_of_row W3 _ 1 _ 24 (0, 0) z3; obtain ⟨W4, hW4⟩ : ∃ W4, W3.alloc (.cells #[.int .i64 id, .int .i64 arg, .int .u8 1, .int .i64 0] 40) = W4 := ⟨_, rfl⟩; have hb4 : Below w1.heap.size w1 W4 := named_below hW4 hb3; have hz4 : BoxB W4 w2.heap.size ⟨true, n⟩ := ((named_later hW4).block _ z3.lt).trans z3; have hown4 := own_row ⟨id, arg, 1, 0⟩ hW4 (Nat.le_trans HB.out.size hb3.size); have HOWN := Lib.hid hown4; have HZ4 := Lib.hid hz4; have HLT : Hid (w.heap.size ≤ w2.heap.size) := Lib.hid (Nat.le_trans HB.out.size hb2.size); have HLT3 : Hid (w2.heap.size < W3.heap.size) := Lib.hid z3.lt; have HOWN3 := Lib.hid (own_row ⟨id, arg, 1, 0⟩ hW4 (Nat.le_refl _)); have HG4 : Hid (W3.heap.size ≤ W4.heap.size) := Lib.hid (named_later hW4).size; have HB4 := Lib.hid (HB.out.trans (hb4.mono HB.out.size)); clear hb2 hb3 z3 hb4 hz4 hown4)
      go_loopw [9, 10] (fun u k wr => ∃ (j : Nat) (l : List Mv), k = .int .i64 j ∧ j ≤ n ∧ Hid (l = ⟨id, arg, 1, 0⟩ :: vals id arg 2 j) ∧ Hid (wr.ownsRow W3.heap.size 40 4 u l.length (mvCells l)) ∧ Hid (BoxB wr w2.heap.size ⟨true, n⟩) ∧ Hid (W3.heap.size ≤ wr.heap.size) ∧ Hid (Below w.heap.size w wr)) (fun _ k _ => n - (intOf k).toNat)
      case atStart => exact ⟨0, [⟨id, arg, 1, 0⟩], rfl, Nat.zero_le _, Lib.hid rfl, HOWN3, HZ4, HG4, HB4⟩
      case round =>
        obtain ⟨j, l, rfl, hj, HLL, HRW, HZ, HG, hB⟩ := hrel
        have g0 := cell_of_row wr _ 0 _ 24 (0, 0) HZ.out
        have g1 := cell_of_row wr _ 1 _ 24 (0, 0) HZ.out
        have hll : l.length = j + 1 := by rw [HLL.out]; simp [vals_length]
        obtain ⟨uA, un, uc, rfl, hun⟩ := mv_slice HRW.out
        have HUN := Lib.hid hun
        have HLN := Lib.hid hll
        clear hll hun
        by_cases hlt : j < n
        · go_wp2_with (at_builtin; refine wpList_append_own_at _ rfl _ _ 32 rfl W3.heap.size 40 i0 _ 4 32 Tryz.underlying32 hi hz0 hz1 hz2 rfl (by decide) _ _ _ rfl (HRW.out.alloc _) ⟨wr.heap.size, 0, none⟩ 1 1 [.int .i64 id, .int .i64 arg, .int .u8 2, .int .i64 j] rfl rfl (cells_new _ _ _) (by simp [Value.oneCell']) (by have := HLN.out; unfold maxLen; omega) (by have := HLN.out; omega) (by have := HG.out; simp; omega) ?_; intro v' w5 hown' hgrow _ hat; have HO := Lib.hid (mv_app (m := ⟨id, arg, 2, j⟩) hown' rfl); have HB5 := Lib.hid ((hB.out.alloc hB.out.size _).grown hgrow (by have := hB.out.size; simp; omega) (fun k e => by have := (rowAt HRW.out e).1; have := HLT.out; have := HLT3.out; omega)); have HZ5 := Lib.hid ((hgrow.block _ (by have := HZ.out.lt; simp; omega) (fun e => by have := (rowAt HRW.out e.symm).1; have := HLT3.out; omega)).trans ((Below.heap_alloc _ _ _ HZ.out.lt).trans HZ.out)); have HG5 : Hid (W3.heap.size ≤ w5.heap.size) := Lib.hid (by have := hgrow.size; have := HG.out; simp at *; omega); clear hown' hgrow hat)
          go_roundw
          case rel => exact ⟨j + 1, _, by simp, by omega, Lib.hid (by rw [HLL.out, vals_succ]; rfl), HO, HZ5, HG5, HB5⟩
          case measure => simp [intOf]; omega
        · obtain rfl : n = j := by omega
          go_wp2
          go_ret
          rw [show refQ a id arg = l from by rw [HR.out, HLL.out]; rfl]
          exact ⟨.slice uA un uc, rfl, rowMv_less HRW.out (by have := HLT.out; have := HLT3.out; omega), hB.out⟩
end Go.Proofs.YtklfojmflmablaaGreatDoor
