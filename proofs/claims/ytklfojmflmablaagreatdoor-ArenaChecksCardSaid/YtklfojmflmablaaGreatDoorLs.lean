/- ArenaSides, ArenaInside, and the reference's All and Moves. -/
import Derived.Deep.RegionHeld3
import Derived.Test.YtklfojmflmablaaGreatDoorGr
import Derived.Test.YtklfojmflmablaaGreatDoorLe
import Derived.Test.YtklfojmflmablaaGreatDoorAw
import Derived.Test.YtklfojmflmablaaGreatDoorIo
import Derived.Test.YtklfojmflmablaaGreatDoorRd
import Derived.Test.YtklfojmflmablaaGreatDoorLf
import Derived.Test.YtklfojmflmablaaGreatDoorOpA
/- The reference's All: an append of moves; what it lists. -/
namespace Go.Proofs.YtklfojmflmablaaGreatDoor
open Go Go.RowKit Go.Shelf
attribute [local go_sem ↓] append_shut

theorem app_nothing (P : Program) (W : World) (t e : TypeId) (i : TypeInfo) (z : Value) (ht : P.underlying t = some (.slice e)) (hi : P.info? e = some i) (hz : i.zero = some z) (A : Option Addr) (k c : Nat) (hk : k ≤ c) :
    (Builtin.append_ #[t, t] t #[.slice A k c, .slice none 0 0]).run P W = .ok (.slice A k c) W := by
  cases A <;> simp [Builtin.append_, run_underlying ht, sizeOf, typeInfo, zeroValue, hi, hz, Builtin.lenOf, Question.forced, run_firstCells_none, hk, storeCells]

/-- Moves behind moves. -/
theorem app_any (W : World) (n m : Nat) (v x : Value) (l r : List Mv) (hv : OwnMv W n v l) (hx : OwnMv W m x r) (hn : n ≤ W.heap.size) (hl : l.length ≤ 20000) (hr : r.length ≤ 20000) :
    ∃ A k c w', (appShut #[32, 32] 32 #[v, x]).run Tryz.prog W = .ok (.slice A k c) w' ∧ OwnMv w' n (.slice A k c) (l ++ r) ∧ Below n W w' ∧ (∀ b, b < W.heap.size → some b ≠ v.ownBlock → w'.heap[b]? = W.heap[b]?) ∧ W.heap.size ≤ w'.heap.size := by
  obtain ⟨i0, hi, hz0, hz1, hz2⟩ := info_parts info40
  rcases hx.2 with ⟨rfl, h0⟩ | ⟨g, cap, cur, rfl, hrest⟩
  · have hr0 : r = [] := List.length_eq_zero_iff.1 h0
    subst hr0
    rw [List.append_nil]
    obtain ⟨A, k, c, rfl, hk⟩ := mv_slice hv
    have hkc : k ≤ c := by
      rcases hv.2 with ⟨e, _⟩ | ⟨g', cap', cur', e, _, _, hcap, _⟩
      · cases e; exact Nat.le_refl _
      · cases e; exact hcap
    exact ⟨A, k, c, W, app_nothing Tryz.prog W 32 40 i0 _ Tryz.underlying32 hi hz0 A k c hkc, hv, Below.refl _ _, fun _ _ _ => rfl, Nat.le_refl _⟩
  · obtain ⟨v', w', hrun, hown, hgrow, _, _⟩ := run_append_own_at (P := Tryz.prog) W n 32 32 40 i0 _ 4 32 Tryz.underlying32 hi hz0 hz1 hz2 rfl (by decide) v l.length (mvCells l) hv ⟨g, 0, none⟩ r.length cap (mvCells r) (mv_len r) (mv_news hx rfl) (mv_one r) (by unfold maxLen; omega) (by omega) hn
    have ho : OwnMv w' n v' (l ++ r) := mv_more hown
    obtain ⟨A, k, c, rfl, hk⟩ := mv_slice ho
    exact ⟨A, k, c, w', hrun, ho, (Below.refl n W).grown hgrow hn (fun k e => (rowAt hv e).1), fun b hb hne => hgrow.block b hb hne, hgrow.size⟩
theorem ownMv_later {W W' : World} {n : Nat} {v : Value} {l : List Mv} (h : OwnMv W n v l) (hb : Below W.heap.size W W') : OwnMv W' n v l := row_below h hb
theorem ownMv_but {W W' : World} {n : Nat} {x v : Value} {l : List Mv} (h : OwnMv W n x l) (hb : ∀ b, b < W.heap.size → some b ≠ v.ownBlock → W'.heap[b]? = W.heap[b]?) (hv : ∀ g, v.ownBlock = some g → g < n) : OwnMv W' n x l := by
  unfold OwnMv at h ⊢
  refine ⟨h.1, ?_⟩
  rcases h.2 with h' | ⟨g, cap, cur, e, hn, hg, rest⟩
  · exact .inl h'
  · exact .inr ⟨g, cap, cur, e, hn, (hb g (Array.getElem?_eq_some_iff.1 hg).1 (fun e' => by have := hv g e'.symm; omega)).trans hg, rest⟩

def cellC (a : Ar) (i j : Nat) : List Mv := refQ a (i : Int) (j : Int) ++ refT a (i : Int) (j : Int) true
def rowC (a : Ar) (i j : Nat) : List Mv := (List.range j).flatMap fun k => cellC a i k
def allC (a : Ar) (i : Nat) : List Mv := (List.range i).flatMap fun k => rowC a k 6
theorem rowC_succ (a : Ar) (i j : Nat) : rowC a i (j + 1) = rowC a i j ++ cellC a i j := by
  unfold rowC
  rw [List.range_succ, List.flatMap_append]; simp
theorem allC_succ (a : Ar) (i : Nat) : allC a (i + 1) = allC a i ++ rowC a i 6 := by
  unfold allC
  rw [List.range_succ, List.flatMap_append]; simp
theorem cellC_eq (a : Ar) (i j : Nat) : cellC a i j = cellMv a (i : Int) (j : Int) := by
  unfold cellC cellMv refQ refT
  cases placeOf a (i : Int) (j : Int) <;> rfl
theorem allC_all {a : Ar} (h5 : ∀ t ∈ a.ids, t.params.length ≤ 5) : allC a (a.ids.length + 1) = allMv a := by
  rw [← refAll_eq a h5]
  unfold allC refAll rowC rowMv
  simp only [cellC_eq]
theorem cellC_len {a : Ar} (hck : checkRes a = 0) (i j : Nat) : (cellC a i j).length ≤ 130 := by
  unfold cellC
  have h1 := refQ_len hck (i : Int) (j : Int)
  have h2 := refT_len hck (i : Int) (j : Int) true
  rw [List.length_append]; omega
theorem rowC_len {a : Ar} (hck : checkRes a = 0) (i j : Nat) (hj : j ≤ 6) : (rowC a i j).length ≤ 780 := by
  have := flatMap_le (fun k => cellC a i k) 130 (List.range j) (fun k _ => cellC_len hck i k)
  rw [List.length_range] at this
  have h2 : j * 130 ≤ 6 * 130 := Nat.mul_le_mul_right _ hj
  unfold rowC; omega
theorem allC_len {a : Ar} (hck : checkRes a = 0) (i : Nat) (hi : i ≤ 9) : (allC a i).length ≤ 7020 := by
  have := flatMap_le (fun k => rowC a k 6) 780 (List.range i) (fun k _ => rowC_len hck k 6 (Nat.le_refl _))
  rw [List.length_range] at this
  have h2 : i * 780 ≤ 9 * 780 := Nat.mul_le_mul_right _ hi
  unfold allC; omega
end Go.Proofs.YtklfojmflmablaaGreatDoor
/- The reference: All. -/
namespace Go.Proofs.YtklfojmflmablaaGreatDoor
open Go Go.RowKit Go.Shelf
attribute [local go_sem ↓] append_shut

theorem boxA_4 {W : World} {B : Nat} {v : Value} {r : Bs} {j : Bool} (h : BoxA W B v r j) : W.cell? ⟨B, 0, none⟩ = some v ∧ W.cell? ⟨B, 1, none⟩ = some (.bool r.cell) ∧ W.cell? ⟨B, 2, none⟩ = some (.int .i64 r.n) ∧ W.cell? ⟨B, 3, none⟩ = some (.bool j) :=
  ⟨cell_of_row W B 0 _ 26 (0, 0) h, cell_of_row W B 1 _ 26 (0, 0) h, cell_of_row W B 2 _ 26 (0, 0) h, cell_of_row W B 3 _ 26 (0, 0) h⟩

/-- An append behind a call: what it gives, as the walk wants it. -/
theorem app_arm {w1 W : World} {m n0 : Nat} {v x : Value} {l r : List Mv} (hv : OwnMv W n0 v l) (hx : OwnMv W m x r) (hb : Below n0 w1 W) (hn : n0 ≤ W.heap.size) (hl : l.length ≤ 20000) (hr : r.length ≤ 20000) :
    ∃ A k c w', (appShut #[32, 32] 32 #[v, x]).run Tryz.prog W = .ok (.slice A k c) w' ∧ Hid (OwnMv w' n0 (.slice A k c) (l ++ r)) ∧ Below n0 w1 w' ∧ Hid (∀ y q m', OwnMv W m' y q → (∀ g, v.ownBlock = some g → g < m') → OwnMv w' m' y q) ∧ Hid (W.heap.size ≤ w'.heap.size) := by
  obtain ⟨A, k, c, w', h1, h2, h3, h4, h5⟩ := app_any W n0 m v x l r hv hx hn hl hr
  exact ⟨A, k, c, w', h1, Lib.hid h2, hb.trans h3, Lib.hid fun y q m' hy hm => ownMv_but hy h4 hm, Lib.hid h5⟩

set_option maxRecDepth 100000 in
set_option maxHeartbeats 4000000 in
theorem refAll_any (v : Value) (a : Ar) (w : World) (hck : checkRes a = 0) (hv : TyIn w w.heap.size v a.ids) :
    Calls Tryz.prog 76 #[arV v a.root a.jumps] w fun e w' => ∃ v', e = .returned v' ∧ OwnMv w' w.heap.size v' (allMv a) ∧ Below w.heap.size w w' := by
  obtain ⟨hs, _, _⟩ := check_small hck
  have hl8 := hs.1
  rw [← allC_all hs.2]
  obtain ⟨n, hn⟩ : ∃ n, a.ids.length = n := ⟨_, rfl⟩
  have CQ : Hid (∀ (i j : Nat) W, Below w.heap.size w W → Calls Tryz.prog 99 #[arV v a.root a.jumps, .int .i64 (i : Int), .int .i64 (j : Int)] W fun e w' => ∃ B k c, e = .returned (.slice B k c) ∧ Hid (OwnMv w' W.heap.size (.slice B k c) (refQ a (i : Int) (j : Int))) ∧ Below W.heap.size W w') := Lib.hid fun i j W hW => by
    refine (questions_any v a (i : Int) (j : Int) W hck (tyIn_later hv hW)).mono ?_
    rintro e w' ⟨v', rfl, ho, hb⟩
    obtain ⟨B, k, c, rfl, _⟩ := mv_slice ho
    exact ⟨B, k, c, rfl, Lib.hid ho, hb⟩
  have CT : Hid (∀ (i j : Nat) W, Below w.heap.size w W → Calls Tryz.prog 97 #[arV v a.root a.jumps, .int .i64 (i : Int), .int .i64 (j : Int), .int .u8 1] W fun e w' => ∃ B k c, e = .returned (.slice B k c) ∧ Hid (OwnMv w' W.heap.size (.slice B k c) (refT a (i : Int) (j : Int) true)) ∧ Below W.heap.size W w') := Lib.hid fun i j W hW => by
    refine (toldAsk_any v a (i : Int) (j : Int) W hck (tyIn_later hv hW)).mono ?_
    rintro e w' ⟨v', rfl, ho, hb⟩
    obtain ⟨B, k, c, rfl, _⟩ := mv_slice ho
    exact ⟨B, k, c, rfl, Lib.hid ho, hb⟩
  have HA : Hid (∀ i, i ≤ n + 1 → (allC a i).length ≤ 7020) := Lib.hid fun i hi => allC_len hck i (by omega)
  have HR : Hid (∀ i j, j ≤ 6 → (rowC a i j).length ≤ 780) := Lib.hid fun i j hj => rowC_len hck i j hj
  have HQ : Hid (∀ i j : Nat, (refQ a (i : Int) (j : Int)).length ≤ 65) := Lib.hid fun i j => refQ_len hck _ _
  have HT : Hid (∀ i j : Nat, (refT a (i : Int) (j : Int) true).length ≤ 65) := Lib.hid fun i j => refT_len hck _ _ _
  obtain ⟨A, c, rfl⟩ := tyIn_slice hv
  rw [hn] at CQ CT ⊢
  obtain ⟨w1, hw1⟩ : ∃ w1, w.alloc (.cells #[.slice A n c, .bool a.root.cell, .int .i64 a.root.n, .bool a.jumps] 26) = w1 := ⟨_, rfl⟩
  have hb : Below w.heap.size w w1 := by rw [← hw1]; exact (Below.refl _ w).alloc (Nat.le_refl _) _
  have x0 : BoxA w1 w.heap.size (.slice A n c) a.root a.jumps := by rw [← hw1]; exact World.alloc_heap_new w _
  have HB := Lib.hid hb
  have HX0 := Lib.hid x0
  have HLT := Lib.hid x0.lt
  have hn8 : n ≤ 8 := by omega
  have h5 : ((5 : Nat) : Int) = 5 := rfl
  unfold arV at *
  clear hb x0 hv hck hs hl8 hn
  go_enter Tryz.func76, Tryz.ntmps76
  go_wp2
  go_loopw [3, 4, 5] (fun u k _ wr => ∃ (i : Nat) (l : List Mv), k = .int .i64 (i : Int) ∧ i ≤ n + 1 ∧ Hid (l = allC a i) ∧ Hid (OwnMv wr w1.heap.size u l) ∧ Hid (Below w1.heap.size w1 wr)) (fun _ k _ _ => n + 2 - (intOf k).toNat)
  case atStart => exact ⟨0, [], rfl, Nat.zero_le _, Lib.hid rfl, Lib.hid (World.ownsRow_nil _ _ _ _), Lib.hid (Below.refl _ _)⟩
  case round =>
    obtain ⟨i, l, rfl, hi, HLL, HRW, hB⟩ := hrel
    obtain ⟨q0, q1, q2, q3⟩ := boxA_4 ((hB.out.block _ HX0.out.lt).trans HX0.out)
    by_cases hlt : i ≤ n
    · have hle : (i : Int) ≤ (n : Int) := by omega
      go_wp2
      go_loopw [3, 5] (fun u k wi => ∃ (j : Nat) (l : List Mv), k = .int .i64 (j : Int) ∧ j ≤ 6 ∧ Hid (l = allC a i ++ rowC a i j) ∧ Hid (OwnMv wi w1.heap.size u l) ∧ Hid (Below w1.heap.size w1 wi)) (fun _ k _ => 7 - (intOf k).toNat)
      case atStart => exact ⟨0, l, rfl, Nat.zero_le _, Lib.hid (by rw [HLL.out]; simp [rowC]), HRW, hB⟩
      case round =>
        obtain ⟨j, li, rfl, hj, HLI, HRI, hBi⟩ := hrel
        obtain ⟨uA, uk, uc, rfl, hun⟩ := mv_slice HRI.out
        clear hun
        obtain ⟨q0, q1, q2, q3⟩ := boxA_4 ((hBi.out.block _ HX0.out.lt).trans HX0.out)
        have HLN : Hid (li.length ≤ 7800) := Lib.hid (by rw [HLI.out, List.length_append]; have h1 := HA.out i hi; have h2 := HR.out i j hj; omega)
        by_cases hlj : j ≤ 5
        · have hle5 : (j : Int) ≤ 5 := by omega
          have h1 : Below w1.heap.size w1 wr.drew := hBi.out.drew
          have HRD : Hid (OwnMv wr.drew w1.heap.size (.slice uA uk uc) li) := Lib.hid HRI.out
          obtain ⟨c0, c1, c2, c3⟩ := boxA_4 HX0.out
          clear h5
          go_wp2
          go_region_held3 (fun W => W.cell? ⟨w.heap.size, 0, none⟩ = some (.slice A n c) ∧ W.cell? ⟨w.heap.size, 1, none⟩ = some (.bool a.root.cell) ∧ W.cell? ⟨w.heap.size, 2, none⟩ = some (.int .i64 a.root.n) ∧ W.cell? ⟨w.heap.size, 3, none⟩ = some (.bool a.jumps))
            (first
              | go_keep
              | (go_split_ands
                 refine ⟨?_, ?_, ?_, ?_⟩ <;> (first
                   | (refine (hBF.cell (by have := HLT.out; simp; omega)).trans ?_; assumption)
                   | (refine (h7.cell (by have := HLT.out; simp; omega)).trans ?_; assumption)
                   | (refine (h6.cell (by have := HLT.out; simp; omega)).trans ?_; assumption)
                   | (refine (h5.cell (by have := HLT.out; simp; omega)).trans ?_; assumption)
                   | (refine (h4.cell (by have := HLT.out; simp; omega)).trans ?_; assumption)
                   | (refine (h1.cell (by have := HLT.out; simp; omega)).trans ?_; assumption)))
              | (trace_state; fail))
            (first
            | (go_at_call 99; refine (CQ.out i j _ (HB.out.trans (h1.mono HB.out.size))).mono ?_; rintro e w4 ⟨B0, k0, c0', rfl, ho0, hb4⟩; have h4 : Below w1.heap.size w1 w4 := h1.trans (hb4.mono h1.size); have HR4 : Hid (OwnMv w4 w1.heap.size (.slice uA uk uc) li) := Lib.hid (ownMv_later HRD.out hb4); obtain ⟨A5, k5, c5, w5, hrun5, HO5, h5, HK5, HS5⟩ := app_arm HR4.out ho0.out h4 h4.size (by have := HLN.out; omega) (by have := HQ.out i j; omega))
            | (go_at_call 97; first
              | ((with_reducible refine (CT.out i j w5 (HB.out.trans (h5.mono HB.out.size))).mono ?_); rintro e w6 ⟨B1, k1, c1', rfl, ho1, hb6⟩; have h6 : Below w1.heap.size w1 w6 := h5.trans (hb6.mono h5.size); obtain ⟨A8, k8, c8, w8, hrun8, HO, hBF, HK8, HS8⟩ := app_arm (ownMv_later HO5.out hb6) ho1.out h6 h6.size (by have := HLN.out; have := HQ.out i j; rw [List.length_append]; omega) (by have := HT.out i j; omega))
              | ((with_reducible refine (CT.out i j w4 (HB.out.trans (h4.mono HB.out.size))).mono ?_); rintro e w6 ⟨B1, k1, c1', rfl, ho1, hb6⟩; have h6 : Below w1.heap.size w1 w6 := h4.trans (hb6.mono h4.size); obtain ⟨A7, k7, c7, w7, hrun7, HO7, h7, HK7, HS7⟩ := app_arm (ownMv_later HR4.out hb6) (ownMv_later ho0.out hb6) h6 h6.size (by have := HLN.out; omega) (by have := HQ.out i j; omega); obtain ⟨A8, k8, c8, w8, hrun8, HO, hBF, HK8, HS8⟩ := app_arm HO7.out (HK7.out _ _ _ ho1.out (fun g hg => (rowAt HR4.out hg).2)) h7 h7.size (by have := HLN.out; have := HQ.out i j; rw [List.length_append]; omega) (by have := HT.out i j; omega))))
          go_wp2
          go_roundw
          case rel => exact ⟨j + 1, _, by simp, by omega, Lib.hid (by rw [HLI.out, rowC_succ]; unfold cellC; simp only [List.append_assoc]), HO, Lib.hid hBF⟩
          case measure => simp [intOf]; omega
        · obtain rfl : j = 6 := by omega
          have hle5 : ¬ (((6 : Nat) : Int) ≤ 5) := by omega
          go_wp2
          go_roundw
          case rel => exact ⟨i + 1, _, by simp, by omega, Lib.hid (by rw [HLI.out, allC_succ]), HRI, hBi⟩
          case measure => simp [intOf]; omega
    · obtain rfl : i = n + 1 := by omega
      have hle : ¬ (((n + 1 : Nat) : Int) ≤ (n : Int)) := by omega
      go_wp2
      go_ret
      rw [← HLL.out]
      exact ⟨_, rfl, rowMv_less HRW.out HB.out.size, HB.out.trans (hB.out.mono HB.out.size)⟩
end Go.Proofs.YtklfojmflmablaaGreatDoor
/- The reference: Moves. The law's Small. -/
namespace Go.Proofs.YtklfojmflmablaaGreatDoor
open Go Go.RowKit Go.Shelf

set_option maxRecDepth 100000 in
set_option maxHeartbeats 1000000 in
theorem refMoves_any (v : Value) (a : Ar) (w : World) (hl : a.ids.length ≤ 1000) (hpl : ∀ t ∈ a.ids, t.params.length ≤ 1000) (hv : TyIn w w.heap.size v a.ids) :
    Calls Tryz.prog 23 #[arV v a.root a.jumps] w fun e w' => ∃ x, e = .returned (.tuple #[x, .int .i64 (movesRes a).2]) ∧ OwnMv w' w.heap.size x (movesRes a).1 ∧ Below w.heap.size w w' := by
  have CC : Hid (∀ W, Below w.heap.size w W → Calls Tryz.prog 25 #[arV v a.root a.jumps] W fun e w' => e = .returned (.int .i64 (checkRes a)) ∧ Below W.heap.size W w') := Lib.hid fun W hW => refCheck_any v a W hl hpl (tyIn_later hv hW)
  have CA : Hid (checkRes a = 0 → ∀ W, Below w.heap.size w W → Calls Tryz.prog 76 #[arV v a.root a.jumps] W fun e w' => ∃ v', e = .returned v' ∧ OwnMv w' W.heap.size v' (allMv a) ∧ Below W.heap.size W w') := Lib.hid fun hck W hW => refAll_any v a W hck (tyIn_later hv hW)
  obtain ⟨A, c, rfl⟩ := tyIn_slice hv
  obtain ⟨n, hn⟩ : ∃ n, a.ids.length = n := ⟨_, rfl⟩
  rw [hn] at CC CA ⊢
  obtain ⟨w1, hw1⟩ : ∃ w1, w.alloc (.cells #[.slice A n c, .bool a.root.cell, .int .i64 a.root.n, .bool a.jumps] 26) = w1 := ⟨_, rfl⟩
  have hb : Below w.heap.size w w1 := by rw [← hw1]; exact (Below.refl _ w).alloc (Nat.le_refl _) _
  have x0 : BoxA w1 w.heap.size (.slice A n c) a.root a.jumps := by rw [← hw1]; exact World.alloc_heap_new w _
  have HB := Lib.hid hb
  have HX0 := Lib.hid x0
  obtain ⟨c0, c1, c2, c3⟩ := boxA_4 x0
  obtain ⟨r, hr⟩ : ∃ r, checkRes a = r := ⟨_, rfl⟩
  have HM : Hid (movesRes a = if r ≠ 0 then ([], r) else (allMv a, 0)) := Lib.hid (by unfold movesRes; rw [hr])
  rw [hr] at CC CA
  clear hb x0 hv hl hpl hn hr
  by_cases h0 : r = 0
  · subst h0
    have CB := Lib.hid (CA.out rfl)
    clear CA
    have hm : movesRes a = (allMv a, 0) := by rw [HM.out, if_neg (by simp)]
    rw [hm]
    have hne : ((0 : Int) != 0) = false := rfl
    unfold arV at CC CB ⊢
    clear HM hm
    go_enter Tryz.func23, Tryz.ntmps23
    go_wp2_with (first
      | (go_at_call 25; refine (CC.out _ HB.out).mono ?_; rintro e w2 ⟨rfl, hb2⟩; obtain ⟨q0, q1, q2, q3⟩ := boxA_4 ((hb2.block _ HX0.out.lt).trans HX0.out); have HB2 := Lib.hid (HB.out.trans (hb2.mono HB.out.size)))
      | (go_at_call 76; refine (CB.out _ HB2.out).mono ?_; rintro e w3 ⟨v3, rfl, ho3, hb3⟩))
    refine bodyPost_ret (results_tmp2 rfl _ _ _) rfl ?_
    exact ⟨_, rfl, rowMv_less ho3 HB2.out.size, HB2.out.trans (hb3.mono HB2.out.size)⟩
  · have hm : movesRes a = ([], r) := by rw [HM.out, if_pos h0]
    rw [hm]
    have hne : (r != 0) = true := by simpa using h0
    unfold arV at CC ⊢
    clear HM hm CA h0
    go_enter Tryz.func23, Tryz.ntmps23
    go_wp2_with (go_at_call 25; refine (CC.out _ HB.out).mono ?_; rintro e w2 ⟨rfl, hb2⟩)
    refine bodyPost_ret (results_tmp2 rfl _ _ _) rfl ?_
    exact ⟨_, rfl, OwnMv.nil _ _, HB.out.trans (hb2.mono HB.out.size)⟩

/-- Whether an arena is small. -/
def smallB (a : Ar) : Bool := thinB a && decide (checkRes a = 0) && decide ((allMv a).length ≤ 300)

set_option maxRecDepth 100000 in
set_option maxHeartbeats 1000000 in
theorem small_any (v : Value) (a : Ar) (w : World) (hl : a.ids.length ≤ 1000) (hpl : ∀ t ∈ a.ids, t.params.length ≤ 1000) (hth : thinB a = true) (hv : TyIn w w.heap.size v a.ids) :
    Calls Tryz.prog 51 #[arV v a.root a.jumps] w fun e w' => e = .returned (.bool (smallB a)) ∧ Below w.heap.size w w' := by
  have CT : Hid (∀ W, Below w.heap.size w W → Calls Tryz.prog 17 #[arV v a.root a.jumps] W fun e w' => e = .returned (.bool true) ∧ Below W.heap.size W w') := Lib.hid fun W hW => by have := thin_any v a W (tyIn_later hv hW); rwa [hth] at this
  have CC : Hid (∀ W, Below w.heap.size w W → Calls Tryz.prog 25 #[arV v a.root a.jumps] W fun e w' => e = .returned (.int .i64 (checkRes a)) ∧ Below W.heap.size W w') := Lib.hid fun W hW => refCheck_any v a W hl hpl (tyIn_later hv hW)
  have CA : Hid (checkRes a = 0 → ∀ W, Below w.heap.size w W → Calls Tryz.prog 76 #[arV v a.root a.jumps] W fun e w' => ∃ B c, e = .returned (.slice B (allMv a).length c) ∧ Below W.heap.size W w') := Lib.hid fun hck W hW => by
    refine (refAll_any v a W hck (tyIn_later hv hW)).mono ?_
    rintro e w' ⟨v', rfl, ho, hb⟩
    obtain ⟨B, k, c, rfl, rfl⟩ := mv_slice ho
    exact ⟨B, c, rfl, hb⟩
  obtain ⟨A, c, rfl⟩ := tyIn_slice hv
  obtain ⟨n, hn⟩ : ∃ n, a.ids.length = n := ⟨_, rfl⟩
  rw [hn] at CT CC CA ⊢
  obtain ⟨w1, hw1⟩ : ∃ w1, w.alloc (.cells #[.slice A n c, .bool a.root.cell, .int .i64 a.root.n, .bool a.jumps] 26) = w1 := ⟨_, rfl⟩
  have hb : Below w.heap.size w w1 := by rw [← hw1]; exact (Below.refl _ w).alloc (Nat.le_refl _) _
  have x0 : BoxA w1 w.heap.size (.slice A n c) a.root a.jumps := by rw [← hw1]; exact World.alloc_heap_new w _
  have HB := Lib.hid hb
  have HX0 := Lib.hid x0
  obtain ⟨c0, c1, c2, c3⟩ := boxA_4 x0
  obtain ⟨r, hr⟩ : ∃ r, checkRes a = r := ⟨_, rfl⟩
  obtain ⟨N, hN⟩ : ∃ N, (allMv a).length = N := ⟨_, rfl⟩
  have HM : Hid (smallB a = (decide (r = 0) && decide (N ≤ 300))) := Lib.hid (by unfold smallB; rw [hr, hN, hth]; rfl)
  rw [hr] at CC CA
  rw [hN] at CA
  clear hb x0 hv hl hpl hn hr hN hth
  rw [HM.out]
  clear HM
  by_cases h0 : r = 0
  · subst h0
    have CB := Lib.hid (CA.out rfl)
    clear CA
    have he : ((0 : Int) == 0) = true := rfl
    unfold arV at CT CC CB ⊢
    go_enter Tryz.func51, Tryz.ntmps51
    go_wp2_with (first
      | (go_at_call 17; refine (CT.out _ HB.out).mono ?_; rintro e w2 ⟨rfl, hb2⟩; obtain ⟨q0, q1, q2, q3⟩ := boxA_4 ((hb2.block _ HX0.out.lt).trans HX0.out); have HB2 := Lib.hid (HB.out.trans (hb2.mono HB.out.size)); have HX2 : Hid (BoxA w2 w.heap.size (.slice A n c) a.root a.jumps) := Lib.hid ((hb2.block _ HX0.out.lt).trans HX0.out))
      | (go_at_call 25; refine (CC.out _ HB2.out).mono ?_; rintro e w3 ⟨rfl, hb3⟩; obtain ⟨p0, p1, p2, p3⟩ := boxA_4 ((hb3.block _ HX2.out.lt).trans HX2.out); have HB3 := Lib.hid (HB2.out.trans (hb3.mono HB2.out.size)))
      | (go_at_call 76; refine (CB.out _ HB3.out).mono ?_; rintro e w4 ⟨B4, c4, rfl, hb4⟩))
    go_ret
    refine ⟨?_, HB3.out.trans (hb4.mono HB3.out.size)⟩
    simp
    omega
  · have he : (r == 0) = false := by simpa using h0
    unfold arV at CT CC ⊢
    clear CA
    rw [decide_eq_false h0]
    clear h0
    go_enter Tryz.func51, Tryz.ntmps51
    go_wp2_with (first
      | (go_at_call 17; refine (CT.out _ HB.out).mono ?_; rintro e w2 ⟨rfl, hb2⟩; obtain ⟨q0, q1, q2, q3⟩ := boxA_4 ((hb2.block _ HX0.out.lt).trans HX0.out); have HB2 := Lib.hid (HB.out.trans (hb2.mono HB.out.size)))
      | (go_at_call 25; refine (CC.out _ HB2.out).mono ?_; rintro e w3 ⟨rfl, hb3⟩))
    go_ret
    exact ⟨rfl, HB2.out.trans (hb3.mono HB2.out.size)⟩
end Go.Proofs.YtklfojmflmablaaGreatDoor
/- The law's whose, and moves. -/
namespace Go.Proofs.YtklfojmflmablaaGreatDoor
open Go Go.RowKit Go.Shelf

set_option maxRecDepth 100000 in
set_option maxHeartbeats 2000000 in
theorem lawWhose_any (v : Value) (a : Ar) (m : Mv) (w : World) (hl : a.ids.length ≤ 1000) (hpl : ∀ t ∈ a.ids, t.params.length ≤ 1000) (hv : TyIn w w.heap.size v a.ids) :
    Calls Tryz.prog 53 #[arV v a.root a.jumps, mvV m] w fun e w' => e = .returned (.tuple #[.bool (otherRes a m).1, .bool ((otherRes a m).2 == 0)]) ∧ Below w.heap.size w w' := by
  have hbig : ∀ t ∈ a.ids, t.params.length ≤ 140737488355328 := fun t ht => by have := hpl t ht; omega
  have HV := Lib.hid hv
  obtain ⟨ob, oe, hOt⟩ : ∃ ob oe, otherRes a m = (ob, oe) := ⟨_, _, rfl⟩
  rw [hOt]
  obtain ⟨A, c, rfl⟩ := tyIn_slice hv
  have C19 : Hid (∀ W, Below w.heap.size w W → Calls Tryz.prog 19 #[arV (.slice A a.ids.length c) a.root a.jumps] W fun e w' => ∃ A' c', e = .returned (arV (.slice A' a.ids.length c') a.root a.jumps) ∧ Hid (TyIn w' w'.heap.size (.slice A' a.ids.length c') a.ids) ∧ Below W.heap.size W w') := Lib.hid fun W hW => by
    refine (copy_any (.slice A a.ids.length c) a W (by omega) hpl (tyIn_later HV.out hW)).mono ?_
    rintro e w' ⟨v', rfl, ht, hb⟩
    obtain ⟨A', c', rfl⟩ := tyIn_slice ht
    exact ⟨A', c', rfl, Lib.hid ht, hb⟩
  have C29 : Hid (∀ W A' c', TyIn W W.heap.size (.slice A' a.ids.length c') a.ids → Calls Tryz.prog 29 #[arV (.slice A' a.ids.length c') a.root a.jumps, mvV m] W fun e w' => e = .returned (.tuple #[.bool ob, .int .i64 oe]) ∧ Below W.heap.size W w') := Lib.hid fun W A' c' ht => by
    have := isOther_any _ a m W (by omega) hbig ht
    rw [hOt] at this
    exact this
  obtain ⟨w1, hw1⟩ : ∃ w1, (w.alloc (.cells #[.slice A a.ids.length c, .bool a.root.cell, .int .i64 a.root.n, .bool a.jumps] 26)).alloc (.cells #[.int .i64 m.id, .int .i64 m.arg, .int .u8 m.kind, .int .i64 m.n] 40) = w1 := ⟨_, rfl⟩
  have hb : Below w.heap.size w w1 := by rw [← hw1]; exact ((Below.refl _ w).alloc (Nat.le_refl _) _).alloc (by simp) _
  have x0 : BoxA w1 w.heap.size (.slice A a.ids.length c) a.root a.jumps := by rw [← hw1]; exact (Below.heap_alloc _ _ _ (by simp)).trans (World.alloc_heap_new w _)
  have x1 : BoxM w1 (w.heap.size + 1) m := by
    rw [← hw1]; have := BoxM.new (w.alloc (.cells #[.slice A a.ids.length c, .bool a.root.cell, .int .i64 a.root.n, .bool a.jumps] 26)) m; rwa [World.size_alloc] at this
  have HB := Lib.hid hb
  have HLT := Lib.hid x1.lt
  obtain ⟨c0, c1, c2, c3⟩ := boxA_4 x0
  have m0 := x1.c0
  have m1 := x1.c1
  have m2 := x1.c2
  have m3 := x1.c3
  obtain ⟨mi, ma, mk, mn⟩ := m
  unfold arV at C19 C29 ⊢
  unfold mvV at C29 ⊢
  dsimp only at hw1 m0 m1 m2 m3 C29 ⊢
  clear hb x0 x1 hv hl hpl hbig hOt HV
  go_enter Tryz.func53, Tryz.ntmps53
  go_wp2
  have h1 : Below w1.heap.size w1 w1.drew := (Below.refl _ w1).drew
  go_region_held3 (fun W => W.cell? ⟨w.heap.size, 0, none⟩ = some (.slice A a.ids.length c) ∧ W.cell? ⟨w.heap.size, 1, none⟩ = some (.bool a.root.cell) ∧ W.cell? ⟨w.heap.size, 2, none⟩ = some (.int .i64 a.root.n) ∧ W.cell? ⟨w.heap.size, 3, none⟩ = some (.bool a.jumps) ∧
      W.cell? ⟨w.heap.size + 1, 0, none⟩ = some (.int .i64 mi) ∧ W.cell? ⟨w.heap.size + 1, 1, none⟩ = some (.int .i64 ma) ∧ W.cell? ⟨w.heap.size + 1, 2, none⟩ = some (.int .u8 mk) ∧ W.cell? ⟨w.heap.size + 1, 3, none⟩ = some (.int .i64 mn))
    (first
      | go_keep
      | (go_split_ands
         refine ⟨?_, ?_, ?_, ?_, ?_, ?_, ?_, ?_⟩ <;> (refine (h1.cell (by have := HLT.out; simp; omega)).trans ?_; assumption))
      | (trace_state; fail))
    (first
    | (go_at_call 19; refine (C19.out _ (HB.out.trans (h1.mono HB.out.size))).mono ?_; rintro e W ⟨A', c', rfl, ht, hb⟩; have h1 : Below w1.heap.size w1 W := h1.trans (hb.mono h1.size))
    | (go_at_call 29; refine (C29.out _ _ _ ht.out).mono ?_; rintro e W' ⟨rfl, hb⟩; have h1 : Below w1.heap.size w1 W' := h1.trans (hb.mono h1.size)))
  go_wp2
  refine bodyPost_ret (results_tmp2 rfl _ _ _) rfl ?_
  exact ⟨rfl, HB.out.trans (h1.mono HB.out.size)⟩
end Go.Proofs.YtklfojmflmablaaGreatDoor
/- The law's moves. -/
namespace Go.Proofs.YtklfojmflmablaaGreatDoor
open Go Go.RowKit Go.Shelf

theorem lessB_eq2 (a b : Mv) : lessB a b = if a.id ≠ b.id then decide (a.id < b.id) else if a.arg ≠ b.arg then decide (a.arg < b.arg) else if a.kind ≠ b.kind then decide (a.kind < b.kind) else decide (a.n < b.n) := by
  have hc : ∀ x y : Int, (cmpI x y = 0 ↔ x = y) ∧ (cmpI x y < 0 ↔ x < y) := fun x y => by
    unfold cmpI
    split
    · exact ⟨by constructor <;> intro h <;> omega, by constructor <;> intro h <;> omega⟩
    · split
      · exact ⟨by constructor <;> intro h <;> omega, by constructor <;> intro h <;> omega⟩
      · exact ⟨by constructor <;> intro h <;> omega, by constructor <;> intro h <;> omega⟩
  unfold lessB
  simp only [orRes, (hc _ _).1]
  by_cases h0 : a.id = b.id
  · rw [if_pos h0, if_neg (show ¬ (a.id ≠ b.id) from fun h => h h0)]
    by_cases h1 : a.arg = b.arg
    · rw [if_pos h1, if_neg (show ¬ (a.arg ≠ b.arg) from fun h => h h1)]
      by_cases h2 : a.kind = b.kind
      · rw [if_pos h2, if_neg (show ¬ (a.kind ≠ b.kind) from fun h => h h2)]
        by_cases h3 : a.n = b.n
        · rw [if_pos h3, h3]; simp
        · rw [if_neg h3]; exact decide_eq_decide.2 (hc _ _).2
      · rw [if_neg h2, if_pos h2]; exact decide_eq_decide.2 (hc _ _).2
    · rw [if_neg h1, if_pos h1]; exact decide_eq_decide.2 (hc _ _).2
  · rw [if_neg h0, if_pos h0]; exact decide_eq_decide.2 (hc _ _).2
theorem lessB_of {a b : Mv} (h : lessMv a b = true) : lessB a b = true := by
  rw [lessB_eq2]
  simp only [lessMv, Bool.or_eq_true, Bool.and_eq_true, decide_eq_true_eq] at h
  repeat' split
  all_goals exact decide_eq_true (by omega)

set_option maxRecDepth 100000 in
set_option maxHeartbeats 2000000 in
theorem lawMoves_any (v : Value) (a : Ar) (w : World) (hck : checkRes a = 0) (h300 : (allMv a).length ≤ 300) (hv : TyIn w w.heap.size v a.ids) :
    Calls Tryz.prog 52 #[arV v a.root a.jumps] w fun e w' => ∃ x, e = .returned (.tuple #[x, .bool true]) ∧ MvIn w' w'.heap.size x (allMv a) ∧ Below w.heap.size w w' := by
  obtain ⟨hs, _, _⟩ := check_small hck
  have hl8 := hs.1
  have hpl : ∀ t ∈ a.ids, t.params.length ≤ 1000 := fun t ht => by have := hs.2 t ht; omega
  have hbig : ∀ t ∈ a.ids, t.params.length ≤ 140737488355328 := fun t ht => by have := hpl t ht; omega
  have HV := Lib.hid hv
  have hm : movesRes a = (allMv a, 0) := by unfold movesRes; rw [if_neg (by rw [hck]; simp)]
  obtain ⟨l, hl⟩ : ∃ l, allMv a = l := ⟨_, rfl⟩
  have HP : Hid (l.Pairwise (fun a b => lessMv a b = true)) := Lib.hid (by rw [← hl]; exact allMv_pair a)
  obtain ⟨A, c, rfl⟩ := tyIn_slice hv
  have C19 : Hid (∀ W, Below w.heap.size w W → Calls Tryz.prog 19 #[arV (.slice A a.ids.length c) a.root a.jumps] W fun e w' => ∃ A' c', e = .returned (arV (.slice A' a.ids.length c') a.root a.jumps) ∧ Hid (TyIn w' w'.heap.size (.slice A' a.ids.length c') a.ids) ∧ Below W.heap.size W w') := Lib.hid fun W hW => by
    refine (copy_any (.slice A a.ids.length c) a W (by omega) hpl (tyIn_later HV.out hW)).mono ?_
    rintro e w' ⟨v', rfl, ht, hb⟩
    obtain ⟨A', c', rfl⟩ := tyIn_slice ht
    exact ⟨A', c', rfl, Lib.hid ht, hb⟩
  have C21 : Hid (∀ W A' c', TyIn W W.heap.size (.slice A' a.ids.length c') a.ids → Calls Tryz.prog 21 #[arV (.slice A' a.ids.length c') a.root a.jumps] W fun e w' => ∃ B c, e = .returned (.tuple #[.slice B l.length c, .int .i64 0]) ∧ Hid (MvIn w' w'.heap.size (.slice B l.length c) l) ∧ Below W.heap.size W w') := Lib.hid fun W A' c' ht => by
    refine (moves_call _ a W (by omega) hbig ht).mono ?_
    rintro e w' ⟨x, rfl, ho, hb⟩
    rw [hm, hl] at ho ⊢
    obtain ⟨B, k, c, rfl, rfl⟩ := mv_slice ho
    exact ⟨B, c, rfl, Lib.hid (mvIn_own ho), hb⟩
  rw [hl] at h300 ⊢
  obtain ⟨w1, hw1⟩ : ∃ w1, w.alloc (.cells #[.slice A a.ids.length c, .bool a.root.cell, .int .i64 a.root.n, .bool a.jumps] 26) = w1 := ⟨_, rfl⟩
  have hb : Below w.heap.size w w1 := by rw [← hw1]; exact (Below.refl _ w).alloc (Nat.le_refl _) _
  have x0 : BoxA w1 w.heap.size (.slice A a.ids.length c) a.root a.jumps := by rw [← hw1]; exact World.alloc_heap_new w _
  have HB := Lib.hid hb
  obtain ⟨c0, c1, c2, c3⟩ := boxA_4 x0
  unfold arV at C19 C21 ⊢
  clear hb x0 hv hpl hbig HV hm hl hck hs
  have hne : ((0 : Int) != 0) = false := rfl
  have hg : ¬ (300 < (l.length : Int)) := by omega
  go_enter Tryz.func52, Tryz.ntmps52
  go_wp2_with (first
    | (go_at_call 19; refine (C19.out _ HB.out).mono ?_; rintro e w2 ⟨A', c', rfl, ht, hb2⟩; have HB2 := Lib.hid (HB.out.trans (hb2.mono HB.out.size)))
    | (go_at_call 21; refine (C21.out _ _ _ ht.out).mono ?_; rintro e w3 ⟨B, cb, rfl, hin, hb3⟩; have HB3 := Lib.hid (HB2.out.trans (hb3.mono HB2.out.size))))
  obtain ⟨B', c', he, hA⟩ := hin.out
  cases he
  have HA := Lib.hid hA
  clear hA
  go_loopw [6] (fun k wr => ∃ (j : Nat), k = .int .i64 ((j : Int) + 1) ∧ j ≤ l.length ∧ Hid (Below w3.heap.size w3 wr)) (fun k _ => l.length + 2 - (intOf k).toNat)
  case atStart => exact ⟨0, rfl, Nat.zero_le _, Lib.hid (Below.refl _ _)⟩
  case round =>
    obtain ⟨j, rfl, hj, hB⟩ := hrel
    by_cases hlt : j + 1 < l.length
    · have hle : (j : Int) + 1 < (l.length : Int) := by omega
      obtain ⟨y, hy⟩ : ∃ y, l[j]? = some y := ⟨_, List.getElem?_eq_getElem (by omega)⟩
      obtain ⟨z, hz⟩ : ∃ z, l[j + 1]? = some z := ⟨_, List.getElem?_eq_getElem (by omega)⟩
      have hyz : lessB y z = true := lessB_of (by
        obtain ⟨h1, rfl⟩ := List.getElem?_eq_some_iff.1 hy
        obtain ⟨h2, rfl⟩ := List.getElem?_eq_some_iff.1 hz
        exact List.pairwise_iff_getElem.1 HP.out _ _ h1 h2 (by omega))
      obtain ⟨b, off, rfl, hbn, hc⟩ := HA.out j y hy
      obtain ⟨b', off', he, _, hd⟩ := HA.out (j + 1) z hz
      cases he
      have e0 := (World.cell?_of_block (hB.out.block b hbn)).trans (hc 0 _ rfl)
      have e1 := (World.cell?_of_block (hB.out.block b hbn)).trans (hc 1 _ rfl)
      have e2 := (World.cell?_of_block (hB.out.block b hbn)).trans (hc 2 _ rfl)
      have e3 := (World.cell?_of_block (hB.out.block b hbn)).trans (hc 3 _ rfl)
      have f0 := (World.cell?_of_block (hB.out.block b hbn)).trans (hd 0 _ rfl)
      have f1 := (World.cell?_of_block (hB.out.block b hbn)).trans (hd 1 _ rfl)
      have f2 := (World.cell?_of_block (hB.out.block b hbn)).trans (hd 2 _ rfl)
      have f3 := (World.cell?_of_block (hB.out.block b hbn)).trans (hd 3 _ rfl)
      simp only [Nat.add_zero] at e0 f0
      have CL : Hid (∀ W, Calls Tryz.prog 48 #[mvV y, mvV z] W fun e w' => e = .returned (.bool true) ∧ Below W.heap.size W w') := Lib.hid fun W => by have := less_any y z W; rwa [hyz] at this
      unfold mvV at CL
      have hw1' : IntKind.i64.wrap ((j : Int) + 1 - 1) = j := by rw [IntKind.wrap_i64]; omega
      have hw2' : ((j : Int) + 1).toNat = j + 1 := by omega
      have hw3' : IntKind.i64.wrap (j : Int) = j := by rw [IntKind.wrap_i64]; omega
      have k0 : (0 : Int) ≤ (j : Int) := by omega
      have k1 : (j : Int) < (l.length : Int) := by omega
      have k2 : (0 : Int) ≤ (j : Int) + 1 := by omega
      have h1 : Below w3.heap.size w3 wr.drew := hB.out.drew
      have HBN := Lib.hid hbn
      clear hy hz hc hd hyz hbn
      go_wp2
      go_region_held3 (fun W => W.cell? ⟨b, off + j * 4, none⟩ = some (.int .i64 y.id) ∧ W.cell? ⟨b, off + j * 4 + 1, none⟩ = some (.int .i64 y.arg) ∧ W.cell? ⟨b, off + j * 4 + 2, none⟩ = some (.int .u8 y.kind) ∧ W.cell? ⟨b, off + j * 4 + 3, none⟩ = some (.int .i64 y.n) ∧
          W.cell? ⟨b, off + (j + 1) * 4, none⟩ = some (.int .i64 z.id) ∧ W.cell? ⟨b, off + (j + 1) * 4 + 1, none⟩ = some (.int .i64 z.arg) ∧ W.cell? ⟨b, off + (j + 1) * 4 + 2, none⟩ = some (.int .u8 z.kind) ∧ W.cell? ⟨b, off + (j + 1) * 4 + 3, none⟩ = some (.int .i64 z.n))
        (first
          | go_keep
          | (go_split_ands
             refine ⟨?_, ?_, ?_, ?_, ?_, ?_, ?_, ?_⟩ <;> (first | assumption | (refine (h5.cell (by have := HBN.out; have := hB.out.size; simp; omega)).trans ?_; assumption)))
          | (trace_state; fail))
        ((go_at_call 48; refine (CL.out _).mono ?_; rintro e w5 ⟨rfl, hb5⟩; have h5 : Below wr.heap.size wr w5 := (Below.refl _ wr).drew.trans hb5; have h6 : Below w3.heap.size w3 w5 := h1.trans (hb5.mono h1.size)))
      go_wp2
      go_roundw
      case rel => exact ⟨j + 1, by simp, by omega, Lib.hid h6⟩
      case measure => simp [intOf]; omega
    · have hle : ¬ ((j : Int) + 1 < (l.length : Int)) := by omega
      go_wp2
      refine bodyPost_ret (results_tmp2 rfl _ _ _) rfl ?_
      exact ⟨_, rfl, hin.out.later hB.out, HB3.out.trans (hB.out.mono HB3.out.size)⟩
end Go.Proofs.YtklfojmflmablaaGreatDoor
/- ArenaSides: what one round of it holds. -/
namespace Go.Proofs.YtklfojmflmablaaGreatDoor
open Go Go.RowKit Go.Shelf

theorem answ_len (p : Pl) (n : Int) (h : n ≤ 64) : (answ p n).length ≤ 65 := by
  unfold answ
  rw [List.length_append, vals_length']
  split
  · simp; omega
  · simp; omega
theorem below_sum {a : Ar} {m : Mv} (hck : checkRes a = 0) : (refBelow a m).length ≤ 520 := by
  obtain ⟨hs, _, _⟩ := check_small hck
  unfold refBelow
  split
  · cases ht : a.ids[m.id.toNat - 1]? with
    | none => simp
    | some t =>
      have h5 : t.params.length ≤ 5 := hs.2 t (List.mem_of_getElem? ht)
      have := flatMap_le (fun k : Nat => refQ a m.id ((k + 1 : Nat) : Int)) 65 (List.range t.params.length) (fun k _ => refQ_len hck _ _)
      rw [List.length_range] at this
      simp only [Option.map_some, Option.getD_some]
      omega
  · have := flatMap_le (fun k : Nat => refQ a ((k + 1 : Nat) : Int) 0) 65 (List.range a.ids.length) (fun k _ => refQ_len hck _ _)
    rw [List.length_range] at this
    have h8 := hs.1
    omega
theorem sides_round {a : Ar} {y : Mv} (hck : checkRes a = 0) (hy : y ∈ allMv a) : ∃ o la ae lu, otherRes a y = (o, 0) ∧ ansRes a y = (la, ae) ∧ underOf a y = (lu, ae) ∧ la.length + lu.length ≤ 600 ∧ (ae = 2 ∨ (ae = 0 ∧ 0 < la.length)) ∧ ∀ x ∈ la ++ lu, ∃ o', otherRes a x = (o', 0) ∧ (o' == o) = false := by
  obtain ⟨p, hp, hm⟩ := mem_all.1 hy
  have hw := which_of hp hm
  obtain ⟨hpl, _, _⟩ := which_some' hw
  obtain ⟨h1, h64, _⟩ := place_right hck hpl
  have hot : ∀ x q, whichPl a x = some q → otherRes a x = (isCalled q == decide (x.kind = 3), 0) := fun x q h => by
    unfold otherRes
    rw [if_neg (by rw [hck]; simp), h]
  have hans : ansRes a y = answRes y p := by
    unfold ansRes
    rw [if_neg (by rw [hck]; simp), hw]
  have hund : underOf a y = underRes a y p := by
    unfold underOf
    rw [if_neg (by rw [hck]; simp), hw]
  by_cases hk : y.kind = 3
  · refine ⟨_, [], 2, [], hot y p hw, ?_, ?_, by simp, .inl rfl, fun x hx => by simp at hx⟩
    · rw [hans]; unfold answRes; rw [if_neg (by omega), if_neg (by omega)]
    · rw [hund]; unfold underRes; rw [if_pos hk]
  · have hk12 : y.kind = 1 ∨ y.kind = 2 := by have := which_kind hw; omega
    have hz : (answRes y p).2 = 0 ∧ 0 < (answRes y p).1.length ∧ (answRes y p).1.length ≤ 65 := by
      unfold answRes
      obtain ⟨s1, s2⟩ := answ_some h1
      rcases hk12 with h | h
      · rw [if_pos h]; exact ⟨rfl, s1, answ_len p _ h64⟩
      · rw [if_neg (by omega), if_pos h]; exact ⟨rfl, s2, answ_len p _ (by omega)⟩
    refine ⟨_, (answRes y p).1, 0, movesBy a (underB p) quests, hot y p hw, ?_, ?_, ?_, .inr ⟨rfl, hz.2.1⟩, fun x hx => ?_⟩
    · rw [hans, ← hz.1]
    · rw [hund]; unfold underRes; rw [if_neg hk]
    · rw [below_eq hw]; have := below_sum (m := y) hck; omega
    · rcases List.mem_append.1 hx with hx | hx
      · obtain ⟨h2, h3⟩ := answ_sides hw h1 hx
        exact ⟨_, hot x p h2, by simpa using h3⟩
      · obtain ⟨q, h2, h3⟩ := under_sides hk hx
        exact ⟨_, hot x q h2, by simpa using h3⟩
end Go.Proofs.YtklfojmflmablaaGreatDoor
/- ArenaSides. -/
namespace Go.Proofs.YtklfojmflmablaaGreatDoor
open Go Go.RowKit Go.Shelf
attribute [local go_sem ↓] append_shut

set_option maxRecDepth 100000 in
set_option maxHeartbeats 1000000 in
theorem small_thick (v : Value) (a : Ar) (w : World) (hth : thinB a = false) (hv : TyIn w w.heap.size v a.ids) :
    Calls Tryz.prog 51 #[arV v a.root a.jumps] w fun e w' => e = .returned (.bool false) ∧ Below w.heap.size w w' := by
  have CT : Hid (∀ W, Below w.heap.size w W → Calls Tryz.prog 17 #[arV v a.root a.jumps] W fun e w' => e = .returned (.bool false) ∧ Below W.heap.size W w') := Lib.hid fun W hW => by have := thin_any v a W (tyIn_later hv hW); rwa [hth] at this
  obtain ⟨A, c, rfl⟩ := tyIn_slice hv
  obtain ⟨n, hn⟩ : ∃ n, a.ids.length = n := ⟨_, rfl⟩
  rw [hn] at CT ⊢
  obtain ⟨w1, hw1⟩ : ∃ w1, w.alloc (.cells #[.slice A n c, .bool a.root.cell, .int .i64 a.root.n, .bool a.jumps] 26) = w1 := ⟨_, rfl⟩
  have hb : Below w.heap.size w w1 := by rw [← hw1]; exact (Below.refl _ w).alloc (Nat.le_refl _) _
  have x0 : BoxA w1 w.heap.size (.slice A n c) a.root a.jumps := by rw [← hw1]; exact World.alloc_heap_new w _
  have HB := Lib.hid hb
  obtain ⟨c0, c1, c2, c3⟩ := boxA_4 x0
  unfold arV at CT ⊢
  clear hb x0 hv hn hth
  go_enter Tryz.func51, Tryz.ntmps51
  go_wp2_with (go_at_call 17; refine (CT.out _ HB.out).mono ?_; rintro e w2 ⟨rfl, hb2⟩)
  go_ret
  exact ⟨rfl, HB.out.trans (hb2.mono HB.out.size)⟩

set_option maxRecDepth 100000 in
set_option maxHeartbeats 1000000 in
theorem law11_big (v : Value) (a : Ar) (w : World) (h : Laid w) (hv : TyIn w w.heap.size v a.ids) (hs : ∀ W, Below w.heap.size w W → Calls Tryz.prog 51 #[arV v a.root a.jumps] W fun e w' => e = .returned (.bool false) ∧ Below W.heap.size W w') :
    Calls Tryz.prog 11 #[arV v a.root a.jumps] w fun e w' => e = .returned (.bool true) ∧ Below w.heap.size w w' := by
  have CS := Lib.hid hs
  have HLD := Lib.hid h
  obtain ⟨A, c, rfl⟩ := tyIn_slice hv
  obtain ⟨n, hn⟩ : ∃ n, a.ids.length = n := ⟨_, rfl⟩
  rw [hn] at CS ⊢
  obtain ⟨w1, hw1⟩ : ∃ w1, w.alloc (.cells #[.slice A n c, .bool a.root.cell, .int .i64 a.root.n, .bool a.jumps] 26) = w1 := ⟨_, rfl⟩
  have hb : Below w.heap.size w w1 := by rw [← hw1]; exact (Below.refl _ w).alloc (Nat.le_refl _) _
  have x0 : BoxA w1 w.heap.size (.slice A n c) a.root a.jumps := by rw [← hw1]; exact World.alloc_heap_new w _
  have HB := Lib.hid hb
  obtain ⟨c0, c1, c2, c3⟩ := boxA_4 x0
  unfold arV at CS ⊢
  clear hb x0 hv hn hs h
  go_enter Tryz.func11, Tryz.ntmps11
  go_wp2_with (first
    | (go_at_call 51; refine (CS.out _ HB.out).mono ?_; rintro e w2 ⟨rfl, hb2⟩)
    | (go_at_call 18; refine (awake_any _ (HLD.out.later (HB.out.trans (hb2.mono HB.out.size)))).mono ?_; rintro e w3 ⟨rfl, hb3⟩))
  go_ret
  exact ⟨rfl, HB.out.trans ((hb2.mono HB.out.size).trans (hb3.mono (Nat.le_trans HB.out.size hb2.size)))⟩

set_option maxRecDepth 100000 in
set_option maxHeartbeats 4000000 in
theorem law11_small (v : Value) (a : Ar) (w : World) (h : Laid w) (hv : TyIn w w.heap.size v a.ids) (hth : thinB a = true) (hck : checkRes a = 0) (h300 : (allMv a).length ≤ 300) :
    Calls Tryz.prog 11 #[arV v a.root a.jumps] w fun e w' => e = .returned (.bool true) ∧ Below w.heap.size w w' := by
  have HLD := Lib.hid h
  have HV := Lib.hid hv
  obtain ⟨h12, h8⟩ := thin_len hth
  have h1000 : ∀ t ∈ a.ids, t.params.length ≤ 1000 := fun t ht => by have := h8 t ht; omega
  have hbig : ∀ t ∈ a.ids, t.params.length ≤ 140737488355328 := fun t ht => by have := h8 t ht; omega
  obtain ⟨A, c, rfl⟩ := tyIn_slice hv
  have CS : Hid (∀ W, Below w.heap.size w W → Calls Tryz.prog 51 #[arV (.slice A a.ids.length c) a.root a.jumps] W fun e w' => e = .returned (.bool true) ∧ Below W.heap.size W w') := Lib.hid fun W hW => by
    have := small_any _ a W (by omega) h1000 hth (tyIn_later HV.out hW)
    rwa [show smallB a = true by unfold smallB; rw [hth, hck, decide_eq_true h300]; rfl] at this
  have C52 : Hid (∀ W, Below w.heap.size w W → Calls Tryz.prog 52 #[arV (.slice A a.ids.length c) a.root a.jumps] W fun e w' => ∃ x, e = .returned (.tuple #[x, .bool true]) ∧ Hid (MvIn w' w'.heap.size x (allMv a)) ∧ Below W.heap.size W w') := Lib.hid fun W hW => by
    refine (lawMoves_any _ a W hck h300 (tyIn_later HV.out hW)).mono ?_
    rintro e w' ⟨x, rfl, hx, hb⟩
    exact ⟨x, rfl, Lib.hid hx, hb⟩
  have C19 : Hid (∀ W, Below w.heap.size w W → Calls Tryz.prog 19 #[arV (.slice A a.ids.length c) a.root a.jumps] W fun e w' => ∃ A' c', e = .returned (arV (.slice A' a.ids.length c') a.root a.jumps) ∧ Hid (TyIn w' w'.heap.size (.slice A' a.ids.length c') a.ids) ∧ Below W.heap.size W w') := Lib.hid fun W hW => by
    refine (copy_any (.slice A a.ids.length c) a W (by omega) h1000 (tyIn_later HV.out hW)).mono ?_
    rintro e w' ⟨v', rfl, ht, hb⟩
    obtain ⟨A', c', rfl⟩ := tyIn_slice ht
    exact ⟨A', c', rfl, Lib.hid ht, hb⟩
  have C53 : Hid (∀ x o, otherRes a x = (o, 0) → ∀ W, Below w.heap.size w W → Calls Tryz.prog 53 #[arV (.slice A a.ids.length c) a.root a.jumps, mvV x] W fun e w' => e = .returned (.tuple #[.bool o, .bool true]) ∧ Below W.heap.size W w') := Lib.hid fun x o hx W hW => by
    have := lawWhose_any _ a x W (by omega) h1000 (tyIn_later HV.out hW)
    rw [hx] at this
    exact this
  have C30 : Hid (∀ x la ae, ansRes a x = (la, ae) → ∀ W A' c', TyIn W W.heap.size (.slice A' a.ids.length c') a.ids → Calls Tryz.prog 30 #[arV (.slice A' a.ids.length c') a.root a.jumps, mvV x] W fun e w' => ∃ B c, e = .returned (.tuple #[.slice B la.length c, .int .i64 ae]) ∧ Hid (OwnMv w' W.heap.size (.slice B la.length c) la) ∧ Below W.heap.size W w') := Lib.hid fun m la ae hAn W A' c' ht => by
    refine (answers_call _ a m W (by omega) hbig ht).mono ?_
    rintro e w' ⟨x, rfl, ho, hb⟩
    rw [hAn] at ho ⊢
    obtain ⟨B, k, c, rfl, rfl⟩ := mv_slice ho
    exact ⟨B, c, rfl, Lib.hid ho, hb⟩
  have C31 : Hid (∀ x lu ae, underOf a x = (lu, ae) → ∀ W A' c', TyIn W W.heap.size (.slice A' a.ids.length c') a.ids → Calls Tryz.prog 31 #[arV (.slice A' a.ids.length c') a.root a.jumps, mvV x] W fun e w' => ∃ B c, e = .returned (.tuple #[.slice B lu.length c, .int .i64 ae]) ∧ Hid (OwnMv w' W.heap.size (.slice B lu.length c) lu) ∧ Below W.heap.size W w') := Lib.hid fun m la ae hAn W A' c' ht => by
    refine (under_call _ a m W (by omega) hbig ht).mono ?_
    rintro e w' ⟨x, rfl, ho, hb⟩
    rw [hAn] at ho ⊢
    obtain ⟨B, k, c, rfl, rfl⟩ := mv_slice ho
    exact ⟨B, c, rfl, Lib.hid ho, hb⟩
  have HSR : Hid (∀ y ∈ allMv a, _) := Lib.hid fun y hy => sides_round hck hy
  obtain ⟨n, hn⟩ : ∃ n, a.ids.length = n := ⟨_, rfl⟩
  obtain ⟨l, hl⟩ : ∃ l, allMv a = l := ⟨_, rfl⟩
  rw [hn] at CS C52 C19 C53 C30 C31 ⊢
  rw [hl] at C52 HSR h300
  obtain ⟨w1, hw1⟩ : ∃ w1, w.alloc (.cells #[.slice A n c, .bool a.root.cell, .int .i64 a.root.n, .bool a.jumps] 26) = w1 := ⟨_, rfl⟩
  have hb : Below w.heap.size w w1 := by rw [← hw1]; exact (Below.refl _ w).alloc (Nat.le_refl _) _
  have x0 : BoxA w1 w.heap.size (.slice A n c) a.root a.jumps := by rw [← hw1]; exact World.alloc_heap_new w _
  have HB := Lib.hid hb
  have HX0 := Lib.hid x0
  have HLT := Lib.hid x0.lt
  obtain ⟨c0, c1, c2, c3⟩ := boxA_4 x0
  unfold arV at CS C52 C19 C53 C30 C31 ⊢
  clear hb x0 hv hn hl h HV h12 h8 h1000 hbig hth hck
  go_enter Tryz.func11, Tryz.ntmps11
  go_wp2_with (first
    | (go_at_call 51; refine (CS.out _ HB.out).mono ?_; rintro e w2 ⟨rfl, hb2⟩; obtain ⟨q0, q1, q2, q3⟩ := boxA_4 ((hb2.block _ HX0.out.lt).trans HX0.out); have HB2 := Lib.hid (HB.out.trans (hb2.mono HB.out.size)); have HX2 : Hid (BoxA w2 w.heap.size (.slice A n c) a.root a.jumps) := Lib.hid ((hb2.block _ HX0.out.lt).trans HX0.out))
    | (go_at_call 52; refine (C52.out _ HB2.out).mono ?_; rintro e w3 ⟨x3, rfl, hin, hb3⟩; have HB3 := Lib.hid (HB2.out.trans (hb3.mono HB2.out.size)); have HX3 : Hid (BoxA w3 w.heap.size (.slice A n c) a.root a.jumps) := Lib.hid ((hb3.block _ HX2.out.lt).trans HX2.out)))
  obtain ⟨B, cb, rfl, hA⟩ := hin.out
  have HA := Lib.hid hA
  have HX3L := Lib.hid HX3.out.lt
  obtain ⟨r0, r1, r2, r3⟩ := boxA_4 HX3.out
  clear hA q0 q1 q2 q3 c0 c1 c2 c3
  go_loopw [5, 6, 7, 8, 9, 10, 11, 12, 13, 14] (fun k _ _ _ _ _ _ _ _ _ wr => ∃ (j : Nat), k = .int .i64 (j : Int) ∧ j ≤ l.length ∧ Hid (Below w3.heap.size w3 wr)) (fun k _ _ _ _ _ _ _ _ _ _ => l.length + 1 - (intOf k).toNat)
  case atStart => exact ⟨0, rfl, Nat.zero_le _, Lib.hid (Below.refl _ _)⟩
  case round =>
    obtain ⟨j, rfl, hj, hB⟩ := hrel
    by_cases hlt : j < l.length
    · have hle : (j : Int) < (l.length : Int) := by omega
      have k0 : (0 : Int) ≤ (j : Int) := by omega
      obtain ⟨y, hy⟩ : ∃ y, l[j]? = some y := ⟨_, List.getElem?_eq_getElem (by omega)⟩
      obtain ⟨o, la, ae, lu, hot, han, hun, hsum, hae, hall⟩ := HSR.out y (List.mem_of_getElem? hy)
      obtain ⟨b, off, rfl, hbn, hc⟩ := HA.out j y hy
      --ROUND
      have e0 := hc 0 _ rfl
      have e1 := hc 1 _ rfl
      have e2 := hc 2 _ rfl
      have e3 := hc 3 _ rfl
      simp only [Nat.add_zero] at e0
      have HBN := Lib.hid hbn
      have CW := Lib.hid (C53.out y o hot)
      have CA := Lib.hid (C30.out y la ae han)
      have CU := Lib.hid (C31.out y lu ae hun)
      have HALL : Hid (∀ x ∈ [] ++ la ++ lu, ∃ o', (o' == o) = false ∧ ∀ W, Below w.heap.size w W → Calls Tryz.prog 53 #[.agg #[.slice A n c, .bool a.root.cell, .int .i64 a.root.n, .bool a.jumps], mvV x] W fun e w' => e = .returned (.tuple #[.bool o', .bool true]) ∧ Below W.heap.size W w') := Lib.hid fun x hx => by
        obtain ⟨o', h1, h2⟩ := hall x (by simpa using hx)
        exact ⟨o', h2, C53.out x o' h1⟩
      obtain ⟨yi, ya, yk, yn⟩ := y
      unfold mvV at CW CA CU
      dsimp only at e0 e1 e2 e3 CW CA CU
      have HKU : Hid (la.length ≤ 600 ∧ lu.length ≤ 600) := Lib.hid ⟨by omega, by omega⟩
      obtain ⟨K, hK⟩ : ∃ K, la.length = K := ⟨_, rfl⟩
      obtain ⟨U, hU⟩ : ∃ U, lu.length = U := ⟨_, rfl⟩
      rw [hK] at CA
      rw [hU] at CU
      rw [hK, hU] at hsum
      have hwr : IntKind.i64.wrap ((K : Int) + (U : Int)) = K + U := by rw [IntKind.wrap_i64]; omega
      have hg6 : ¬ (600 < (K : Int) + (U : Int)) := by omega
      rw [hK] at hae
      clear hy hc hot han hun hall hbn hK hU hsum
      rcases hae with rfl | ⟨rfl, hK0⟩
      case' inr => have hk0 : ((K : Int) == 0) = false := by simp; omega
      all_goals (
        go_wp2
        have q0 := (hB.out.cell (p := ⟨w.heap.size, 0, none⟩) HX3L.out).trans r0
        have q1 := (hB.out.cell (p := ⟨w.heap.size, 1, none⟩) HX3L.out).trans r1
        have q2 := (hB.out.cell (p := ⟨w.heap.size, 2, none⟩) HX3L.out).trans r2
        have q3 := (hB.out.cell (p := ⟨w.heap.size, 3, none⟩) HX3L.out).trans r3
        have m0 := (hB.out.cell (p := ⟨b, off + j * 4, none⟩) HBN.out).trans e0
        have m1 := (hB.out.cell (p := ⟨b, off + j * 4 + 1, none⟩) HBN.out).trans e1
        have m2 := (hB.out.cell (p := ⟨b, off + j * 4 + 2, none⟩) HBN.out).trans e2
        have m3 := (hB.out.cell (p := ⟨b, off + j * 4 + 3, none⟩) HBN.out).trans e3
        have h1 : Below w3.heap.size w3 wr.drew := hB.out.drew
        go_region_held3 (fun W => W.cell? ⟨w.heap.size, 0, none⟩ = some (.slice A n c) ∧ W.cell? ⟨w.heap.size, 1, none⟩ = some (.bool a.root.cell) ∧ W.cell? ⟨w.heap.size, 2, none⟩ = some (.int .i64 a.root.n) ∧ W.cell? ⟨w.heap.size, 3, none⟩ = some (.bool a.jumps) ∧ W.cell? ⟨b, off + j * 4, none⟩ = some (.int .i64 yi) ∧ W.cell? ⟨b, off + j * 4 + 1, none⟩ = some (.int .i64 ya) ∧ W.cell? ⟨b, off + j * 4 + 2, none⟩ = some (.int .u8 yk) ∧ W.cell? ⟨b, off + j * 4 + 3, none⟩ = some (.int .i64 yn))
          (first
            | go_keep
            | (go_split_ands
               refine ⟨?_, ?_, ?_, ?_, ?_, ?_, ?_, ?_⟩ <;> (first
                 | assumption
                 | (refine (h1.cell (by have := HX3L.out; simp; omega)).trans ?_; assumption)
                 | (refine (h1.cell (by have := HBN.out; simp; omega)).trans ?_; assumption)))
            | (trace_state; fail))
          ((go_at_call 53; refine (CW.out _ (HB3.out.trans (h1.mono HB3.out.size))).mono ?_; rintro e w4 ⟨rfl, hb⟩; have h1 : Below w3.heap.size w3 w4 := h1.trans (hb.mono h1.size)))
        rename_i hheld
        obtain ⟨q0, q1, q2, q3, m0, m1, m2, m3⟩ := hheld
        go_wp2
        have h1 := h1.drew
        go_region_held3 (fun W => W.cell? ⟨w.heap.size, 0, none⟩ = some (.slice A n c) ∧ W.cell? ⟨w.heap.size, 1, none⟩ = some (.bool a.root.cell) ∧ W.cell? ⟨w.heap.size, 2, none⟩ = some (.int .i64 a.root.n) ∧ W.cell? ⟨w.heap.size, 3, none⟩ = some (.bool a.jumps) ∧ W.cell? ⟨b, off + j * 4, none⟩ = some (.int .i64 yi) ∧ W.cell? ⟨b, off + j * 4 + 1, none⟩ = some (.int .i64 ya) ∧ W.cell? ⟨b, off + j * 4 + 2, none⟩ = some (.int .u8 yk) ∧ W.cell? ⟨b, off + j * 4 + 3, none⟩ = some (.int .i64 yn))
          (first
            | go_keep
            | (go_split_ands
               refine ⟨?_, ?_, ?_, ?_, ?_, ?_, ?_, ?_⟩ <;> (first
                 | assumption
                 | (refine (h1.cell (by have := HX3L.out; simp; omega)).trans ?_; assumption)
                 | (refine (h1.cell (by have := HBN.out; simp; omega)).trans ?_; assumption)))
            | (trace_state; fail))
          (first
          | (go_at_call 19; refine (C19.out _ (HB3.out.trans (h1.mono HB3.out.size))).mono ?_; rintro e W ⟨A', c', rfl, ht, hb⟩; have h1 : Below w3.heap.size w3 W := h1.trans (hb.mono h1.size))
          | (go_at_call 30; refine (CA.out _ _ _ ht.out).mono ?_; rintro e W5 ⟨B5, c5, rfl, hka, hb⟩; have h1 : Below w3.heap.size w3 W5 := h1.trans (hb.mono h1.size)))
        rename_i hheld
        obtain ⟨q0, q1, q2, q3, m0, m1, m2, m3⟩ := hheld
        go_wp2
        have h1 := h1.drew
        go_region_held3 (fun W => W.cell? ⟨w.heap.size, 0, none⟩ = some (.slice A n c) ∧ W.cell? ⟨w.heap.size, 1, none⟩ = some (.bool a.root.cell) ∧ W.cell? ⟨w.heap.size, 2, none⟩ = some (.int .i64 a.root.n) ∧ W.cell? ⟨w.heap.size, 3, none⟩ = some (.bool a.jumps) ∧ W.cell? ⟨b, off + j * 4, none⟩ = some (.int .i64 yi) ∧ W.cell? ⟨b, off + j * 4 + 1, none⟩ = some (.int .i64 ya) ∧ W.cell? ⟨b, off + j * 4 + 2, none⟩ = some (.int .u8 yk) ∧ W.cell? ⟨b, off + j * 4 + 3, none⟩ = some (.int .i64 yn))
          (first
            | go_keep
            | (go_split_ands
               refine ⟨?_, ?_, ?_, ?_, ?_, ?_, ?_, ?_⟩ <;> (first
                 | assumption
                 | (refine (h1.cell (by have := HX3L.out; simp; omega)).trans ?_; assumption)
                 | (refine (h1.cell (by have := HBN.out; simp; omega)).trans ?_; assumption)))
            | (trace_state; fail))
          (first
          | (go_at_call 19; refine (C19.out _ (HB3.out.trans (h1.mono HB3.out.size))).mono ?_; rintro e W6 ⟨A', c', rfl, ht, hb⟩; have h1 : Below w3.heap.size w3 W6 := h1.trans (hb.mono h1.size); have HP5 : Hid (Below W5.heap.size W5 W6) := Lib.hid ((Below.refl _ W5).drew.trans hb))
          | (go_at_call 31; refine (CU.out _ _ _ ht.out).mono ?_; rintro e W7 ⟨B7, c7, rfl, hku, hb⟩; have h1 : Below w3.heap.size w3 W7 := h1.trans (hb.mono h1.size); have HP7 : Hid (Below W5.heap.size W5 W7) := Lib.hid (HP5.out.trans (hb.mono HP5.out.size))))
        rename_i hheld
        obtain ⟨q0, q1, q2, q3, m0, m1, m2, m3⟩ := hheld
        have HA7 := Lib.hid (ownMv_later hka.out HP7.out)
        obtain ⟨A9, k9, c9, w9, hrun9, HO9, hb9, _, _⟩ := app_arm (w1 := W7) (n0 := W7.heap.size) (show OwnMv (W7.alloc (.cells #[] 40)) W7.heap.size (.slice (some ⟨W7.heap.size, 0, none⟩) 0 0) [] from own_empty W7 40 4 _ (Nat.le_refl _)) (ownMv_later HA7.out ((Below.refl _ W7).alloc (Nat.le_refl _) (.cells #[] 40))) ((Below.refl _ W7).alloc (Nat.le_refl _) _) (by simp) (by simp) (by have := HKU.out; omega)
        obtain ⟨A10, k10, c10, w10, hrun10, HO10, hb10, _, _⟩ := app_arm (w1 := W7) HO9.out (ownMv_later hku.out hb9) hb9 hb9.size (by have := HKU.out; simp; omega) (by have := HKU.out; omega)
        have h10 : Below w3.heap.size w3 w10 := h1.trans (hb10.mono h1.size)
        have HM10 := Lib.hid (mvIn_own HO10.out)
        obtain ⟨L, hL⟩ : ∃ L, [] ++ la ++ lu = L := ⟨_, rfl⟩
        rw [hL] at HALL HM10
        have HLL : Hid (L.length ≤ 1200) := Lib.hid (by rw [← hL]; have := HKU.out; simp; omega)
        clear hL
        obtain ⟨B10, c10', he, hA2⟩ := HM10.out
        cases he
        have HA2 := Lib.hid hA2
        clear hA2 hb9 hb10 h1
        have HX10 : Hid (w.heap.size < w10.heap.size) := Lib.hid (by have h1 := HX3L.out; have h2 := h10.size; omega)
        have s0 := (h10.cell (p := ⟨w.heap.size, 0, none⟩) HX3L.out).trans r0
        have s1 := (h10.cell (p := ⟨w.heap.size, 1, none⟩) HX3L.out).trans r1
        have s2 := (h10.cell (p := ⟨w.heap.size, 2, none⟩) HX3L.out).trans r2
        have s3 := (h10.cell (p := ⟨w.heap.size, 3, none⟩) HX3L.out).trans r3
        clear q0 q1 q2 q3 m0 m1 m2 m3 CW CA CU
        go_wp2
        go_loopw [12, 13, 14] (fun k _ _ wi => ∃ (q : Nat), k = .int .i64 (q : Int) ∧ q ≤ L.length ∧ Hid (Below w10.heap.size w10 wi)) (fun k _ _ _ => L.length + 1 - (intOf k).toNat)
        case atStart => exact ⟨0, rfl, Nat.zero_le _, Lib.hid (Below.refl _ _)⟩
        case round =>
          obtain ⟨q, rfl, hq, hBq⟩ := hrel
          by_cases hlq : q < L.length
          · have hL12 := HLL.out
            have hleq : (q : Int) < (L.length : Int) := by omega
            have kq0 : (0 : Int) ≤ (q : Int) := by omega
            obtain ⟨x, hx⟩ : ∃ x, L[q]? = some x := ⟨_, List.getElem?_eq_getElem hlq⟩
            obtain ⟨o', hoo, hcx⟩ := HALL.out x (List.mem_of_getElem? hx)
            obtain ⟨b2, off2, rfl, hbn2, hc2⟩ := HA2.out q x hx
            have HB2N := Lib.hid hbn2
            have f0 := hc2 0 _ rfl
            have f1 := hc2 1 _ rfl
            have f2 := hc2 2 _ rfl
            have f3 := hc2 3 _ rfl
            simp only [Nat.add_zero] at f0
            have CX := Lib.hid hcx
            obtain ⟨xi, xa, xk, xn⟩ := x
            unfold mvV at CX
            dsimp only at f0 f1 f2 f3 CX
            clear hx hcx hbn2 hc2
            have p0 := (hBq.out.cell (p := ⟨w.heap.size, 0, none⟩) HX10.out).trans s0
            have p1 := (hBq.out.cell (p := ⟨w.heap.size, 1, none⟩) HX10.out).trans s1
            have p2 := (hBq.out.cell (p := ⟨w.heap.size, 2, none⟩) HX10.out).trans s2
            have p3 := (hBq.out.cell (p := ⟨w.heap.size, 3, none⟩) HX10.out).trans s3
            have g0 := (hBq.out.cell (p := ⟨b2, off2 + q * 4, none⟩) HB2N.out).trans f0
            have g1 := (hBq.out.cell (p := ⟨b2, off2 + q * 4 + 1, none⟩) HB2N.out).trans f1
            have g2 := (hBq.out.cell (p := ⟨b2, off2 + q * 4 + 2, none⟩) HB2N.out).trans f2
            have g3 := (hBq.out.cell (p := ⟨b2, off2 + q * 4 + 3, none⟩) HB2N.out).trans f3
            go_wp2
            have h2 : Below w10.heap.size w10 wr.drew := hBq.out.drew
            go_region_held3 (fun W => W.cell? ⟨w.heap.size, 0, none⟩ = some (.slice A n c) ∧ W.cell? ⟨w.heap.size, 1, none⟩ = some (.bool a.root.cell) ∧ W.cell? ⟨w.heap.size, 2, none⟩ = some (.int .i64 a.root.n) ∧ W.cell? ⟨w.heap.size, 3, none⟩ = some (.bool a.jumps) ∧ W.cell? ⟨b2, off2 + q * 4, none⟩ = some (.int .i64 xi) ∧ W.cell? ⟨b2, off2 + q * 4 + 1, none⟩ = some (.int .i64 xa) ∧ W.cell? ⟨b2, off2 + q * 4 + 2, none⟩ = some (.int .u8 xk) ∧ W.cell? ⟨b2, off2 + q * 4 + 3, none⟩ = some (.int .i64 xn))
              (first
              | go_keep
              | (go_split_ands
                 refine ⟨?_, ?_, ?_, ?_, ?_, ?_, ?_, ?_⟩ <;> (first
                   | assumption
                   | (refine (h2.cell (by have := HX10.out; simp; omega)).trans ?_; assumption)
                   | (refine (h2.cell (by have := HB2N.out; simp; omega)).trans ?_; assumption)))
              | (trace_state; fail))
              ((go_at_call 53; refine (CX.out _ (HB3.out.trans ((h10.trans (h2.mono h10.size)).mono HB3.out.size))).mono ?_; rintro e w12 ⟨rfl, hb⟩; have h2 : Below w10.heap.size w10 w12 := h2.trans (hb.mono h2.size)))
            go_wp2
            go_roundw
            case rel => exact ⟨q + 1, by simp, by omega, Lib.hid h2⟩
            case measure => simp [intOf]; omega
          · obtain rfl : q = L.length := by omega
            go_wp2
            go_roundw
            case rel => exact ⟨j + 1, by simp, by omega, Lib.hid (h10.trans (hBq.out.mono h10.size))⟩
            case measure => simp [intOf]; omega)
    · obtain rfl : j = l.length := by omega
      go_wp2_with (go_at_call 18; refine (awake_any _ (HLD.out.later (HB3.out.trans (hB.out.mono HB3.out.size)))).mono ?_; rintro e w9 ⟨rfl, hb9⟩)
      go_ret
      exact ⟨rfl, HB3.out.trans ((hB.out.trans (hb9.mono hB.out.size)).mono HB3.out.size)⟩

theorem law11_any (v : Value) (a : Ar) (w : World) (h : Laid w) (hv : TyIn w w.heap.size v a.ids) :
    Calls Tryz.prog 11 #[arV v a.root a.jumps] w fun e w' => e = .returned (.bool true) ∧ Below w.heap.size w w' := by
  cases hth : thinB a with
  | false => exact law11_big v a w h hv fun W hW => small_thick v a W hth (tyIn_later hv hW)
  | true =>
    obtain ⟨h12, h8⟩ := thin_len hth
    cases hsm : smallB a with
    | false =>
      refine law11_big v a w h hv fun W hW => ?_
      have := small_any v a W (by omega) (fun t ht => by have := h8 t ht; omega) hth (tyIn_later hv hW)
      rwa [hsm] at this
    | true =>
      unfold smallB at hsm
      simp only [Bool.and_eq_true, decide_eq_true_eq] at hsm
      exact law11_small v a w h hv hth hsm.1.2 hsm.2
end Go.Proofs.YtklfojmflmablaaGreatDoor
/- ArenaInside: what it rests on. -/
namespace Go.Proofs.YtklfojmflmablaaGreatDoor
open Go Go.RowKit Go.Shelf

theorem okTy_base {t : Ty} (h : okTy t = true) : okBs t.result = true ∧ ∀ b ∈ t.params, okBs b = true := by
  unfold okTy at h
  simp only [Bool.and_eq_true, List.all_eq_true] at h
  exact ⟨h.2.1, h.2.2⟩
theorem inner_check {a : Ar} {i : Nat} {t : Ty} (hck : checkRes a = 0) (ht : a.ids[i]? = some t) : checkRes (innerOf a t) = 0 := by
  obtain ⟨hs, _, hok⟩ := check_small hck
  have hm := List.mem_of_getElem? ht
  obtain ⟨h1, h2⟩ := okTy_base (hok t hm)
  have h5 : t.params.length ≤ 5 := hs.2 t hm
  unfold checkRes innerOf
  dsimp only
  rw [if_neg, if_neg]
  · simp only [Bool.or_eq_true, Bool.not_eq_true', List.any_map, List.any_eq_true, Function.comp]
    rintro (h | ⟨b, hb, h⟩)
    · rw [h1] at h; cases h
    · have := h2 b hb
      simp [okTy, this] at h
  · simp only [List.length_map, Bool.or_eq_true, decide_eq_true_eq, List.any_map, List.any_eq_true, Function.comp]
    rintro (h | ⟨b, hb, h⟩)
    · omega
    · simp at h
theorem inner_thin {a : Ar} {i : Nat} {t : Ty} (hck : checkRes a = 0) (ht : a.ids[i]? = some t) : thinB (innerOf a t) = true := by
  obtain ⟨hs, _, _⟩ := check_small hck
  have h5 : t.params.length ≤ 5 := hs.2 t (List.mem_of_getElem? ht)
  unfold thinB innerOf
  simp only [List.length_map, List.all_map, Bool.and_eq_true, decide_eq_true_eq, List.all_eq_true, Function.comp]
  exact ⟨by omega, fun b _ => by simp⟩
theorem inner_res {a : Ar} {i : Nat} {t : Ty} (hck : checkRes a = 0) (ht : a.ids[i]? = some t) : innerRes a ((i : Int) + 1) = (innerOf a t, 0) := by
  have hi : i < a.ids.length := (List.getElem?_eq_some_iff.1 ht).1
  unfold innerRes
  rw [if_neg (by rw [hck]; simp), if_neg (by omega), show ((i : Int) + 1).toNat - 1 = i by omega, ht]
  rfl
theorem inner_len {a : Ar} {i : Nat} {t : Ty} (ht : a.ids[i]? = some t) : ((allMv a).filter fun m => decide (m.id = (i : Int) + 1)).length = (allMv (innerOf a t)).length := by
  rw [← inner_moves a i t ht, List.length_map]
  rfl
theorem inner_small {a : Ar} {i : Nat} {t : Ty} (ht : a.ids[i]? = some t) (h : (allMv a).length ≤ 300) : (allMv (innerOf a t)).length ≤ 300 := by
  rw [← inner_len ht]
  exact Nat.le_trans (List.length_filter_le _ _) h
theorem other_of {a : Ar} {y : Mv} (hck : checkRes a = 0) (hy : y ∈ allMv a) : ∃ p ∈ places a, y ∈ movesOf p ∧ otherRes a y = (isCalled p == decide (y.kind = 3), 0) := by
  obtain ⟨p, hp, hm⟩ := mem_all.1 hy
  refine ⟨p, hp, hm, ?_⟩
  unfold otherRes
  rw [if_neg (by rw [hck]; simp), which_of hp hm]
theorem inside_move {a : Ar} {i : Nat} {t : Ty} {y : Mv} (hck : checkRes a = 0) (ht : a.ids[i]? = some t) (hy : y ∈ allMv a) (hid : y.id = (i : Int) + 1) :
    ∃ o o', otherRes a y = (o, 0) ∧ otherRes (innerOf a t) (toInner y) = (o', 0) ∧ (o == o') = false ∧ toInner y ∈ allMv (innerOf a t) := by
  obtain ⟨p, hp, hm, ho⟩ := other_of hck hy
  have hpid : p.id = (i : Int) + 1 := by rw [← (movesOf_mem hm).1, hid]
  have hin : plInner p ∈ places (innerOf a t) := by
    rw [← inner_places a i t ht]
    exact List.mem_map_of_mem (List.mem_filter.2 ⟨hp, by simp [hpid]⟩)
  have hmi : toInner y ∈ movesOf (plInner p) := by
    rw [← moves_inner]
    exact List.mem_map_of_mem hm
  refine ⟨_, isCalled (plInner p) == decide (y.kind = 3), ho, ?_, ?_, mem_all.2 ⟨_, hin, hmi⟩⟩
  · unfold otherRes
    rw [if_neg (by rw [inner_check hck ht]; simp), which_of hin hmi]
    rfl
  · have := inner_side (p := p) (by omega) y.kind
    rw [beq_eq_false_iff_ne]
    exact fun h => this h.symm
theorem boxA_later {W W' : World} {B : Nat} {v : Value} {r : Bs} {j : Bool} (h : BoxA W B v r j) (hb : Below W.heap.size W W') : BoxA W' B v r j := (hb.block _ h.lt).trans h
/-- How many of the first ones are of an identifier. -/
def manyI (l : List Mv) (id : Int) (j : Nat) : Nat := ((l.take j).filter fun m => decide (m.id = id)).length
theorem manyI_succ {l : List Mv} {id : Int} {j : Nat} {y : Mv} (hy : l[j]? = some y) : manyI l id (j + 1) = if y.id = id then manyI l id j + 1 else manyI l id j := by
  unfold manyI
  rw [List.take_add_one, hy]
  simp only [Option.toList_some, List.filter_append, List.length_append]
  by_cases h : y.id = id
  · rw [if_pos h]; simp [h]
  · rw [if_neg h]; simp [h]
end Go.Proofs.YtklfojmflmablaaGreatDoor
/- ArenaInside. -/
namespace Go.Proofs.YtklfojmflmablaaGreatDoor
open Go Go.RowKit Go.Shelf

set_option maxRecDepth 100000 in
set_option maxHeartbeats 1000000 in
theorem law14_big (v : Value) (a : Ar) (p : Int) (w : World) (h : Laid w) (hv : TyIn w w.heap.size v a.ids) (hs : ∀ W, Below w.heap.size w W → Calls Tryz.prog 51 #[arV v a.root a.jumps] W fun e w' => e = .returned (.bool false) ∧ Below W.heap.size W w') :
    Calls Tryz.prog 14 #[arV v a.root a.jumps, .int .u8 p] w fun e w' => e = .returned (.bool true) ∧ Below w.heap.size w w' := by
  have CS := Lib.hid hs
  have HLD := Lib.hid h
  obtain ⟨A, c, rfl⟩ := tyIn_slice hv
  obtain ⟨n, hn⟩ : ∃ n, a.ids.length = n := ⟨_, rfl⟩
  rw [hn] at CS ⊢
  obtain ⟨w1, hw1⟩ : ∃ w1, w.alloc (.cells #[.slice A n c, .bool a.root.cell, .int .i64 a.root.n, .bool a.jumps] 26) = w1 := ⟨_, rfl⟩
  have hb : Below w.heap.size w w1 := by rw [← hw1]; exact (Below.refl _ w).alloc (Nat.le_refl _) _
  have x0 : BoxA w1 w.heap.size (.slice A n c) a.root a.jumps := by rw [← hw1]; exact World.alloc_heap_new w _
  have HB := Lib.hid hb
  obtain ⟨c0, c1, c2, c3⟩ := boxA_4 x0
  unfold arV at CS ⊢
  clear hb x0 hv hn hs h
  go_enter Tryz.func14, Tryz.ntmps14
  go_wp2_with (first
    | (go_at_call 51; refine (CS.out _ HB.out).mono ?_; rintro e w2 ⟨rfl, hb2⟩)
    | (go_at_call 18; refine (awake_any _ (HLD.out.later (HB.out.trans (hb2.mono HB.out.size)))).mono ?_; rintro e w3 ⟨rfl, hb3⟩))
  go_ret
  exact ⟨rfl, HB.out.trans ((hb2.mono HB.out.size).trans (hb3.mono (Nat.le_trans HB.out.size hb2.size)))⟩

set_option maxRecDepth 100000 in
set_option maxHeartbeats 1000000 in
theorem law14_none (v : Value) (a : Ar) (p : Int) (w : World) (h : Laid w) (hv : TyIn w w.heap.size v a.ids) (h0 : a.ids.length = 0) (hs : ∀ W, Below w.heap.size w W → Calls Tryz.prog 51 #[arV v a.root a.jumps] W fun e w' => e = .returned (.bool true) ∧ Below W.heap.size W w') :
    Calls Tryz.prog 14 #[arV v a.root a.jumps, .int .u8 p] w fun e w' => e = .returned (.bool true) ∧ Below w.heap.size w w' := by
  have CS := Lib.hid hs
  have HLD := Lib.hid h
  obtain ⟨A, c, rfl⟩ := tyIn_slice hv
  rw [h0] at CS ⊢
  obtain ⟨w1, hw1⟩ : ∃ w1, w.alloc (.cells #[.slice A 0 c, .bool a.root.cell, .int .i64 a.root.n, .bool a.jumps] 26) = w1 := ⟨_, rfl⟩
  have hb : Below w.heap.size w w1 := by rw [← hw1]; exact (Below.refl _ w).alloc (Nat.le_refl _) _
  have x0 : BoxA w1 w.heap.size (.slice A 0 c) a.root a.jumps := by rw [← hw1]; exact World.alloc_heap_new w _
  have HB := Lib.hid hb
  have HX0 := Lib.hid x0
  obtain ⟨c0, c1, c2, c3⟩ := boxA_4 x0
  unfold arV at CS ⊢
  clear hb x0 hv h0 hs h
  go_enter Tryz.func14, Tryz.ntmps14
  go_wp2_with (first
    | (go_at_call 51; refine (CS.out _ HB.out).mono ?_; rintro e w2 ⟨rfl, hb2⟩; obtain ⟨q0, q1, q2, q3⟩ := boxA_4 ((hb2.block _ HX0.out.lt).trans HX0.out))
    | (go_at_call 18; refine (awake_any _ (HLD.out.later (HB.out.trans (hb2.mono HB.out.size)))).mono ?_; rintro e w3 ⟨rfl, hb3⟩))
  go_ret
  exact ⟨rfl, HB.out.trans ((hb2.mono HB.out.size).trans (hb3.mono (Nat.le_trans HB.out.size hb2.size)))⟩

set_option maxRecDepth 100000 in
set_option maxHeartbeats 4000000 in
theorem law14_some (v : Value) (a : Ar) (p : Int) (hp0 : 0 ≤ p) (hp1 : p < 256) (i : Nat) (t : Ty) (hpi : p % (a.ids.length : Int) = i) (ht : a.ids[i]? = some t) (w : World) (h : Laid w) (hv : TyIn w w.heap.size v a.ids) (hth : thinB a = true) (hck : checkRes a = 0) (h300 : (allMv a).length ≤ 300) :
    Calls Tryz.prog 14 #[arV v a.root a.jumps, .int .u8 p] w fun e w' => e = .returned (.bool true) ∧ Below w.heap.size w w' := by
  have HLD := Lib.hid h
  have HV := Lib.hid hv
  obtain ⟨h12, h8⟩ := thin_len hth
  have h1000 : ∀ t ∈ a.ids, t.params.length ≤ 1000 := fun t ht => by have := h8 t ht; omega
  have hbig : ∀ t ∈ a.ids, t.params.length ≤ 140737488355328 := fun t ht => by have := h8 t ht; omega
  obtain ⟨A, c, rfl⟩ := tyIn_slice hv
  have CS : Hid (∀ W, Below w.heap.size w W → Calls Tryz.prog 51 #[arV (.slice A a.ids.length c) a.root a.jumps] W fun e w' => e = .returned (.bool true) ∧ Below W.heap.size W w') := Lib.hid fun W hW => by
    have := small_any _ a W (by omega) h1000 hth (tyIn_later HV.out hW)
    rwa [show smallB a = true by unfold smallB; rw [hth, hck, decide_eq_true h300]; rfl] at this
  have C52 : Hid (∀ W, Below w.heap.size w W → Calls Tryz.prog 52 #[arV (.slice A a.ids.length c) a.root a.jumps] W fun e w' => ∃ B c, e = .returned (.tuple #[.slice B (allMv a).length c, .bool true]) ∧ Hid (MvIn w' w'.heap.size (.slice B (allMv a).length c) (allMv a)) ∧ Below W.heap.size W w') := Lib.hid fun W hW => by
    refine (lawMoves_any _ a W hck h300 (tyIn_later HV.out hW)).mono ?_
    rintro e w' ⟨x, rfl, hx, hb⟩
    obtain ⟨B, c, rfl, hA⟩ := hx
    exact ⟨B, c, rfl, Lib.hid ⟨B, c, rfl, hA⟩, hb⟩
  have C19 : Hid (∀ W, Below w.heap.size w W → Calls Tryz.prog 19 #[arV (.slice A a.ids.length c) a.root a.jumps] W fun e w' => ∃ A' c', e = .returned (arV (.slice A' a.ids.length c') a.root a.jumps) ∧ Hid (TyIn w' w'.heap.size (.slice A' a.ids.length c') a.ids) ∧ Below W.heap.size W w') := Lib.hid fun W hW => by
    refine (copy_any (.slice A a.ids.length c) a W (by omega) h1000 (tyIn_later HV.out hW)).mono ?_
    rintro e w' ⟨v', rfl, ht, hb⟩
    obtain ⟨A', c', rfl⟩ := tyIn_slice ht
    exact ⟨A', c', rfl, Lib.hid ht, hb⟩
  have C53 : Hid (∀ x o, otherRes a x = (o, 0) → ∀ W, Below w.heap.size w W → Calls Tryz.prog 53 #[arV (.slice A a.ids.length c) a.root a.jumps, mvV x] W fun e w' => e = .returned (.tuple #[.bool o, .bool true]) ∧ Below W.heap.size W w') := Lib.hid fun x o hx W hW => by
    have := lawWhose_any _ a x W (by omega) h1000 (tyIn_later HV.out hW)
    rw [hx] at this
    exact this
  have HIM : Hid (∀ y ∈ allMv a, y.id = (i : Int) + 1 → _) := Lib.hid fun y hy => inside_move hck ht hy
  have HIL := Lib.hid (inner_len ht)
  have hbc := inner_check hck ht
  have hbt := inner_thin hck ht
  have hb3 := inner_small ht h300
  have hbr := inner_res hck ht
  have hil : i < a.ids.length := (List.getElem?_eq_some_iff.1 ht).1
  obtain ⟨b, hb⟩ : ∃ b, innerOf a t = b := ⟨_, rfl⟩
  rw [hb] at HIM HIL hbc hbt hb3 hbr
  obtain ⟨g12, g8⟩ := thin_len hbt
  have g1000 : ∀ t ∈ b.ids, t.params.length ≤ 1000 := fun t ht => by have := g8 t ht; omega
  have C37 : Hid (∀ W A' c', TyIn W W.heap.size (.slice A' a.ids.length c') a.ids → Calls Tryz.prog 37 #[arV (.slice A' a.ids.length c') a.root a.jumps, .int .i64 ((i : Int) + 1)] W fun e w' => ∃ B c, e = .returned (.tuple #[arV (.slice B b.ids.length c) b.root b.jumps, .int .i64 0]) ∧ Hid (TyIn w' w'.heap.size (.slice B b.ids.length c) b.ids) ∧ Below W.heap.size W w') := Lib.hid fun W A' c' ht => by
    refine (inner_any _ a ((i : Int) + 1) W (by omega) hbig ht).mono ?_
    rw [hbr]
    rintro e w' ⟨v', rfl, hx, hb⟩
    obtain ⟨B, c, rfl⟩ := tyIn_slice hx
    exact ⟨B, c, rfl, Lib.hid hx, hb⟩
  have D51 : Hid (∀ W B c, TyIn W W.heap.size (.slice B b.ids.length c) b.ids → Calls Tryz.prog 51 #[arV (.slice B b.ids.length c) b.root b.jumps] W fun e w' => e = .returned (.bool true) ∧ Below W.heap.size W w') := Lib.hid fun W B c hx => by
    have := small_any _ b W (by omega) g1000 hbt hx
    rwa [show smallB b = true by unfold smallB; rw [hbt, hbc, decide_eq_true hb3]; rfl] at this
  have D52 : Hid (∀ W B c, TyIn W W.heap.size (.slice B b.ids.length c) b.ids → Calls Tryz.prog 52 #[arV (.slice B b.ids.length c) b.root b.jumps] W fun e w' => ∃ B c, e = .returned (.tuple #[.slice B (allMv b).length c, .bool true]) ∧ Hid (MvIn w' w'.heap.size (.slice B (allMv b).length c) (allMv b)) ∧ Below W.heap.size W w') := Lib.hid fun W B c hx => by
    refine (lawMoves_any _ b W hbc hb3 hx).mono ?_
    rintro e w' ⟨x, rfl, hx, hb⟩
    obtain ⟨B, c, rfl, hA⟩ := hx
    exact ⟨B, c, rfl, Lib.hid ⟨B, c, rfl, hA⟩, hb⟩
  have D53 : Hid (∀ x o, otherRes b x = (o, 0) → ∀ W B c, TyIn W W.heap.size (.slice B b.ids.length c) b.ids → Calls Tryz.prog 53 #[arV (.slice B b.ids.length c) b.root b.jumps, mvV x] W fun e w' => e = .returned (.tuple #[.bool o, .bool true]) ∧ Below W.heap.size W w') := Lib.hid fun x o hx W B c hin => by
    have := lawWhose_any _ b x W (by omega) g1000 hin
    rw [hx] at this
    exact this
  have D54 : Hid (∀ x ∈ allMv b, ∀ W v, MvIn W W.heap.size v (allMv b) → Calls Tryz.prog 54 #[v, mvV x] W fun e w' => ∃ r : Nat, e = .returned (.int .i64 (r : Int)) ∧ Below W.heap.size W w') := Lib.hid fun x hx W v hin => by
    refine (find54_any v (allMv b) x W (by omega) hin).mono ?_
    rintro e w' ⟨r, rfl, h | ⟨k, rfl, _⟩, hb⟩
    · exact absurd hx h.2
    · exact ⟨k, rfl, hb⟩
  obtain ⟨n, hn⟩ : ∃ n, a.ids.length = n := ⟨_, rfl⟩
  obtain ⟨nb, hnb⟩ : ∃ nb, b.ids.length = nb := ⟨_, rfl⟩
  obtain ⟨l, hl⟩ : ∃ l, allMv a = l := ⟨_, rfl⟩
  obtain ⟨lb, hlb⟩ : ∃ lb, allMv b = lb := ⟨_, rfl⟩
  rw [hn] at CS C52 C19 C53 C37 hpi hil ⊢
  rw [hnb] at C37 D51 D52 D53
  rw [hl] at C52 HIM HIL h300
  rw [hlb] at D52 D54 HIM HIL hb3
  obtain ⟨w1, hw1⟩ : ∃ w1, w.alloc (.cells #[.slice A n c, .bool a.root.cell, .int .i64 a.root.n, .bool a.jumps] 26) = w1 := ⟨_, rfl⟩
  have hbw : Below w.heap.size w w1 := by rw [← hw1]; exact (Below.refl _ w).alloc (Nat.le_refl _) _
  have x0 : BoxA w1 w.heap.size (.slice A n c) a.root a.jumps := by rw [← hw1]; exact World.alloc_heap_new w _
  have HB := Lib.hid hbw
  have HX0 := Lib.hid x0
  obtain ⟨c0, c1, c2, c3⟩ := boxA_4 x0
  have hn0 : ((n : Int) == 0) = false := by simp; omega
  have hn12 : n ≤ 12 := by omega
  unfold arV at CS C52 C19 C53 C37 D51 D52 D53 ⊢
  clear hbw x0 hv hn hl hnb hlb h HV h12 h8 h1000 hbig hth hck hbc hbt hbr g12 g8 g1000 hb ht
  go_enter Tryz.func14, Tryz.ntmps14
  go_wp2_with (first
    | (go_at_call 51; first
        | ((with_reducible refine (CS.out w1 HB.out).mono ?_); rintro e w2 ⟨rfl, hb2⟩; have HX2 : Hid (BoxA w2 w.heap.size (.slice A n c) a.root a.jumps) := Lib.hid ((hb2.block _ HX0.out.lt).trans HX0.out); obtain ⟨q0, q1, q2, q3⟩ := boxA_4 HX2.out; have HB2 := Lib.hid (HB.out.trans (hb2.mono HB.out.size)))
        | ((with_reducible refine (D51.out x4 B4 c4 HT4.out).mono ?_); rintro e w6 ⟨rfl, hb6⟩; have HX6 : Hid (BoxA w6 w.heap.size (.slice A n c) a.root a.jumps) := Lib.hid ((hb6.block _ HX4.out.lt).trans HX4.out); have HY6 : Hid (BoxA w6 w4.heap.size (.slice B4 nb c4) b.root b.jumps) := Lib.hid ((hb6.block _ HY4.out.lt).trans HY4.out); obtain ⟨q0, q1, q2, q3⟩ := boxA_4 HX6.out; have HB6 := Lib.hid (HBx.out.trans (hb6.mono HBx.out.size)); have HT6 := Lib.hid (tyIn_later HT4.out hb6)))
    | (go_at_call 19; refine (C19.out _ HB2.out).mono ?_; rintro e w3 ⟨A', c', rfl, ht, hb3⟩; have HB3 := Lib.hid (HB2.out.trans (hb3.mono HB2.out.size)); have HX3 : Hid (BoxA w3 w.heap.size (.slice A n c) a.root a.jumps) := Lib.hid ((hb3.block _ HX2.out.lt).trans HX2.out))
    | (go_at_call 37; go_loud (refine (C37.out _ _ _ ht.out).mono ?_; rintro e w4 ⟨B4, c4, rfl, hin4, hb4⟩; have HB4 := Lib.hid (HB3.out.trans (hb4.mono HB3.out.size)); obtain ⟨x1, x2, x3, x4, e1, e2, e3, e4, s0, f0, s1, f1, s2, f2, s3, f3, hx4, ho⟩ := chain26 (B := w4.heap.size) (v := .slice none 0 0) (root := ⟨false, 0⟩) (ju := false) (show BoxA (w4.alloc (.cells #[.slice none 0 0, .bool false, .int .i64 0, .bool false] 26)) w4.heap.size (.slice none 0 0) ⟨false, 0⟩ false from World.alloc_heap_new w4 _) (.slice B4 nb c4) b.root b.jumps; have HZ4 : Hid (Below w4.heap.size w4 x4) := Lib.hid (((Below.refl _ w4).alloc (Nat.le_refl _) _).trans (ho.below _ (by simp) (fun b hb h => by omega))); have HX4 : Hid (BoxA x4 w.heap.size (.slice A n c) a.root a.jumps) := Lib.hid (boxA_later (boxA_later HX3.out hb4) HZ4.out); have HY4 : Hid (BoxA x4 w4.heap.size (.slice B4 nb c4) b.root b.jumps) := Lib.hid hx4; obtain ⟨r0, r1, r2, r3⟩ := boxA_4 hx4; have HBx := Lib.hid (HB4.out.trans (HZ4.out.mono HB4.out.size)); have HT4 := Lib.hid (tyIn_later hin4.out HZ4.out); clear ho hx4))
    | (go_at_call 52; first
        | ((with_reducible refine (C52.out w6 HB6.out).mono ?_); rintro e w7 ⟨Bl, cl, rfl, hm7, hb7⟩; have HB7 := Lib.hid (HB6.out.trans (hb7.mono HB6.out.size)); have HX7 : Hid (BoxA w7 w.heap.size (.slice A n c) a.root a.jumps) := Lib.hid ((hb7.block _ HX6.out.lt).trans HX6.out); have HY7 : Hid (BoxA w7 w4.heap.size (.slice B4 nb c4) b.root b.jumps) := Lib.hid ((hb7.block _ HY6.out.lt).trans HY6.out); have HT7 := Lib.hid (tyIn_later HT6.out hb7); obtain ⟨u0, u1, u2, u3⟩ := boxA_4 HY7.out)
        | ((with_reducible refine (D52.out w7 B4 c4 HT7.out).mono ?_); rintro e w8 ⟨Bk, ck, rfl, hm8, hb8⟩; have HB8 := Lib.hid (HB7.out.trans (hb8.mono HB7.out.size)); have HX8 : Hid (BoxA w8 w.heap.size (.slice A n c) a.root a.jumps) := Lib.hid ((hb8.block _ HX7.out.lt).trans HX7.out); have HY8 : Hid (BoxA w8 w4.heap.size (.slice B4 nb c4) b.root b.jumps) := Lib.hid ((hb8.block _ HY7.out.lt).trans HY7.out); have HT8 := Lib.hid (tyIn_later HT7.out hb8); have HL8 := Lib.hid (hm7.out.later hb8))))
  obtain ⟨B', c', he, hA⟩ := HL8.out
  cases he
  have HA := Lib.hid hA
  have HX8L := Lib.hid HX8.out.lt
  have HY8L := Lib.hid HY8.out.lt
  obtain ⟨a0, a1, a2, a3⟩ := boxA_4 HX8.out
  clear hA q0 q1 q2 q3 u0 u1 u2 u3 r0 r1 r2 r3 c0 c1 c2 c3 e1 e2 e3 e4 s0 f0 s1 f1 s2 f2 s3 f3
  go_loopw [12, 13, 14, 15, 16, 17, 18] (fun m k _ _ _ _ _ wr => ∃ (j : Nat), k = .int .i64 (j : Int) ∧ m = .int .i64 ((manyI l ((i : Int) + 1) j : Nat) : Int) ∧ j ≤ l.length ∧ Hid (Below w8.heap.size w8 wr)) (fun _ k _ _ _ _ _ _ => l.length + 1 - (intOf k).toNat)
  case atStart => exact ⟨0, rfl, rfl, Nat.zero_le _, Lib.hid (Below.refl _ _)⟩
  case round =>
    obtain ⟨j, rfl, rfl, hj, hB⟩ := hrel
    obtain ⟨M, hM⟩ : ∃ M, manyI l ((i : Int) + 1) j = M := ⟨_, rfl⟩
    have hMj : M ≤ j := by rw [← hM]; unfold manyI; exact Nat.le_trans (List.length_filter_le _ _) (by rw [List.length_take]; omega)
    rw [hM]
    by_cases hlt : j < l.length
    · have hle : (j : Int) < (l.length : Int) := by omega
      have k0 : (0 : Int) ≤ (j : Int) := by omega
      obtain ⟨y, hy⟩ : ∃ y, l[j]? = some y := ⟨_, List.getElem?_eq_getElem hlt⟩
      have HMS := Lib.hid (manyI_succ (id := (i : Int) + 1) hy)
      have him := HIM.out y (List.mem_of_getElem? hy)
      obtain ⟨bl, off, rfl, hbn, hc⟩ := HA.out j y hy
      have HBN := Lib.hid hbn
      have e0 := hc 0 _ rfl
      have e1 := hc 1 _ rfl
      have e2 := hc 2 _ rfl
      have e3 := hc 3 _ rfl
      simp only [Nat.add_zero] at e0
      obtain ⟨yi, ya, yk, yn⟩ := y
      dsimp only at e0 e1 e2 e3 him HMS
      rw [hM] at HMS
      clear hy hc hbn hM
      by_cases hid : yi = (i : Int) + 1
      · subst hid
        obtain ⟨o, o', ho1, ho2, hoo, hmem⟩ := him rfl
        have CW := Lib.hid (C53.out _ o ho1)
        have DW := Lib.hid (D53.out _ o' ho2)
        have DF := Lib.hid (D54.out _ hmem)
        unfold mvV toInner at DW DF
        unfold mvV at CW
        dsimp only at CW DW DF
        have HM1 : Hid (manyI l ((i : Int) + 1) (j + 1) = M + 1) := Lib.hid (by rw [HMS.out, if_pos rfl])
        have hne : (((i : Int) + 1) != ((i : Int) + 1)) = false := by simp
        clear him ho1 ho2 hmem HMS
        have g0 := (hB.out.cell (p := ⟨bl, off + j * 4, none⟩) HBN.out).trans e0
        have g1 := (hB.out.cell (p := ⟨bl, off + j * 4 + 1, none⟩) HBN.out).trans e1
        have g2 := (hB.out.cell (p := ⟨bl, off + j * 4 + 2, none⟩) HBN.out).trans e2
        have g3 := (hB.out.cell (p := ⟨bl, off + j * 4 + 3, none⟩) HBN.out).trans e3
        obtain ⟨y1, y2, y3, y4, d1, d2, d3, d4, s0, f0, s1, f1, s2, f2, s3, f3, hy4, ho⟩ := chain40 (W := (wr.alloc (.cells #[.int .i64 0, .int .i64 0, .int .u8 0, .int .i64 0] 40)).drew) (B := wr.heap.size) (m := ⟨0, 0, 0, 0⟩) (BoxM.new wr ⟨0, 0, 0, 0⟩) ⟨ya, 0, yk, yn⟩
        have hz4 : Below wr.heap.size wr y4 := ((Below.refl _ wr).alloc (Nat.le_refl _) _).drew.trans (ho.below _ (by simp) (fun b hb h => by omega))
        have hy8 : Below w8.heap.size w8 y4 := hB.out.trans (hz4.mono hB.out.size)
        have HY4B := Lib.hid hy4
        dsimp only at d1 d2 d3 d4 s0 s1 s2 s3
        have ga0 := cell_alloc_some (.cells #[.int .i64 0, .int .i64 0, .int .u8 0, .int .i64 0] 40) g0
        have ga1 := cell_alloc_some (.cells #[.int .i64 0, .int .i64 0, .int .u8 0, .int .i64 0] 40) g1
        have ga2 := cell_alloc_some (.cells #[.int .i64 0, .int .i64 0, .int .u8 0, .int .i64 0] 40) g2
        have ga3 := cell_alloc_some (.cells #[.int .i64 0, .int .i64 0, .int .u8 0, .int .i64 0] 40) g3
        have q0 := (hy8.cell (p := ⟨w.heap.size, 0, none⟩) HX8L.out).trans a0
        have q1 := (hy8.cell (p := ⟨w.heap.size, 1, none⟩) HX8L.out).trans a1
        have q2 := (hy8.cell (p := ⟨w.heap.size, 2, none⟩) HX8L.out).trans a2
        have q3 := (hy8.cell (p := ⟨w.heap.size, 3, none⟩) HX8L.out).trans a3
        have m0 := (hy8.cell (p := ⟨bl, off + j * 4, none⟩) HBN.out).trans e0
        have m1 := (hy8.cell (p := ⟨bl, off + j * 4 + 1, none⟩) HBN.out).trans e1
        have m2 := (hy8.cell (p := ⟨bl, off + j * 4 + 2, none⟩) HBN.out).trans e2
        have m3 := (hy8.cell (p := ⟨bl, off + j * 4 + 3, none⟩) HBN.out).trans e3
        clear hy4 ho hz4
        go_wp2
        go_region
        all_goals (
          go_wp2
          have h1 : Below w8.heap.size w8 y4.drew := hy8.drew
          go_region_held3 (fun W => W.cell? ⟨w.heap.size, 0, none⟩ = some (.slice A n c) ∧ W.cell? ⟨w.heap.size, 1, none⟩ = some (.bool a.root.cell) ∧ W.cell? ⟨w.heap.size, 2, none⟩ = some (.int .i64 a.root.n) ∧ W.cell? ⟨w.heap.size, 3, none⟩ = some (.bool a.jumps) ∧ W.cell? ⟨bl, off + j * 4, none⟩ = some (.int .i64 ((i : Int) + 1)) ∧ W.cell? ⟨bl, off + j * 4 + 1, none⟩ = some (.int .i64 ya) ∧ W.cell? ⟨bl, off + j * 4 + 2, none⟩ = some (.int .u8 yk) ∧ W.cell? ⟨bl, off + j * 4 + 3, none⟩ = some (.int .i64 yn))
            (first
              | go_keep
              | (go_split_ands
                 refine ⟨?_, ?_, ?_, ?_, ?_, ?_, ?_, ?_⟩ <;> (first
                   | assumption
                   | (refine (h1.cell (by have := HX8L.out; simp; omega)).trans ?_; assumption)
                   | (refine (h1.cell (by have := HBN.out; simp; omega)).trans ?_; assumption)))
              | (trace_state; fail))
            ((go_at_call 53; refine (CW.out _ (HB8.out.trans (h1.mono HB8.out.size))).mono ?_; rintro e w9 ⟨rfl, hb⟩; have h1 : Below w8.heap.size w8 w9 := h1.trans (hb.mono h1.size); have HM9 : Hid (BoxM w9 wr.heap.size ⟨ya, 0, yk, yn⟩) := Lib.hid ((hb.block _ HY4B.out.lt).trans HY4B.out)))
          have n0 := HM9.out.c0
          have n1 := HM9.out.c1
          have n2 := HM9.out.c2
          have n3 := HM9.out.c3
          dsimp only at n0 n1 n2 n3
          have HY9 : Hid (BoxA w9 w4.heap.size (.slice B4 nb c4) b.root b.jumps) := Lib.hid (boxA_later HY8.out h1)
          obtain ⟨r0, r1, r2, r3⟩ := boxA_4 HY9.out
          go_wp2_with (first
            | (go_at_call 53; refine (DW.out _ _ _ (tyIn_later HT8.out h1)).mono ?_; rintro e w10 ⟨rfl, hb10⟩; have h10 : Below w8.heap.size w8 w10 := h1.trans (hb10.mono h1.size); have z10 : BoxM w10 wr.heap.size ⟨ya, 0, yk, yn⟩ := (hb10.block _ HM9.out.lt).trans HM9.out; have l0 := z10.c0; have l1 := z10.c1; have l2 := z10.c2; have l3 := z10.c3; dsimp only at l0 l1 l2 l3; clear z10)
            | (go_at_call 54; go_loud (refine (DF.out _ _ (hm8.out.later h10)).mono ?_; rintro e w11 ⟨r, rfl, hb11⟩; have hr : ¬ ((r : Int) < 0) := (by omega); have h11 : Below w8.heap.size w8 w11 := h10.trans (hb11.mono h10.size))))
          go_roundw
          case rel => exact ⟨j + 1, by simp, by rw [HM1.out]; simp, by omega, Lib.hid h11⟩
          case measure => simp [intOf]; omega)
      · have hne : (yi != ((i : Int) + 1)) = true := by simpa using hid
        have HM1 : Hid (manyI l ((i : Int) + 1) (j + 1) = M) := Lib.hid (by rw [HMS.out, if_neg hid])
        clear him HMS hid
        have g0 := (hB.out.cell (p := ⟨bl, off + j * 4, none⟩) HBN.out).trans e0
        have g1 := (hB.out.cell (p := ⟨bl, off + j * 4 + 1, none⟩) HBN.out).trans e1
        have g2 := (hB.out.cell (p := ⟨bl, off + j * 4 + 2, none⟩) HBN.out).trans e2
        have g3 := (hB.out.cell (p := ⟨bl, off + j * 4 + 3, none⟩) HBN.out).trans e3
        go_wp2
        go_roundw
        case rel => exact ⟨j + 1, by simp, by rw [HM1.out], by omega, hB⟩
        case measure => simp [intOf]; omega
    · obtain rfl : j = l.length := by omega
      have hfin : M = lb.length := by rw [← hM, ← HIL.out]; unfold manyI; rw [List.take_length]
      subst hfin
      go_wp2_with (go_at_call 18; refine (awake_any _ (HLD.out.later (HB8.out.trans (hB.out.mono HB8.out.size)))).mono ?_; rintro e w9 ⟨rfl, hb9⟩)
      go_ret
      exact ⟨rfl, HB8.out.trans ((hB.out.trans (hb9.mono hB.out.size)).mono HB8.out.size)⟩
end Go.Proofs.YtklfojmflmablaaGreatDoor
namespace Go.Proofs.YtklfojmflmablaaGreatDoor
open Go Go.RowKit Go.Shelf
open Go.ChangeShapes Go.WideShapes Go.ChangeAt

theorem law14_any (v : Value) (a : Ar) (p : Int) (hp0 : 0 ≤ p) (hp1 : p < 256) (w : World) (h : Laid w) (hv : TyIn w w.heap.size v a.ids) :
    Calls Tryz.prog 14 #[arV v a.root a.jumps, .int .u8 p] w fun e w' => e = .returned (.bool true) ∧ Below w.heap.size w w' := by
  cases hth : thinB a with
  | false => exact law14_big v a p w h hv fun W hW => small_thick v a W hth (tyIn_later hv hW)
  | true =>
    obtain ⟨h12, h8⟩ := thin_len hth
    have hsm : ∀ W, Below w.heap.size w W → Calls Tryz.prog 51 #[arV v a.root a.jumps] W fun e w' => e = .returned (.bool (smallB a)) ∧ Below W.heap.size W w' := fun W hW =>
      small_any v a W (by omega) (fun t ht => by have := h8 t ht; omega) hth (tyIn_later hv hW)
    cases hs : smallB a with
    | false => rw [hs] at hsm; exact law14_big v a p w h hv hsm
    | true =>
      rw [hs] at hsm
      by_cases h0 : a.ids.length = 0
      · exact law14_none v a p w h hv h0 hsm
      · have hlt : p % (a.ids.length : Int) < a.ids.length := Int.emod_lt_of_pos _ (by omega)
        have hge : 0 ≤ p % (a.ids.length : Int) := Int.emod_nonneg _ (by omega)
        unfold smallB at hs
        simp only [Bool.and_eq_true, decide_eq_true_eq] at hs
        exact law14_some v a p hp0 hp1 (p % (a.ids.length : Int)).toNat _ (by omega) (List.getElem?_eq_getElem (by omega)) w h hv hth hs.1.2 hs.2

set_option maxRecDepth 100000 in
theorem open_u8 {H : Type} {enc : TypeId × Value → H} {r : Reach} {W : World} {b0 base : Nat} {sp : Nat → Bool} {held : Bool} {v : Value} {d : DataW H} {ps : List MemPlace} (hval : Value.okWide Tryz.prog W r b0 5 v) (hd : DataW.Trod enc Tryz.prog W base sp held 5 v d ps) :
    ∃ p : Int, v = .int .u8 p ∧ 0 ≤ p ∧ p < 256 := by
  obtain ⟨n, rfl⟩ := okWide_int Tryz.underlying5 hval
  obtain ⟨fuel, hf⟩ := hd
  obtain ⟨x, e, _, h2⟩ := DataW.trod_int Tryz.underlying5 hf
  have e' : [Value.int .u8 n] = [Value.int .u8 x] := e
  cases e'
  have h3 : IntKind.u8.min ≤ n ∧ n ≤ IntKind.u8.max := by simpa [Lit.wf] using h2
  have h4 : IntKind.u8.max = 255 := by decide
  have h5 : IntKind.u8.min = 0 := by decide
  rw [h4, h5] at h3
  exact ⟨n, rfl, h3.1, by omega⟩
end Go.Proofs.YtklfojmflmablaaGreatDoor
