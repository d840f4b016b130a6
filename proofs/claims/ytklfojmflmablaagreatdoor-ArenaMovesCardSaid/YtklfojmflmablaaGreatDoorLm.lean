/- ArenaMoves. -/
import Derived.Deep.RegionHeld3
import Derived.Test.YtklfojmflmablaaGreatDoorGr
import Derived.Test.YtklfojmflmablaaGreatDoorGh
import Derived.Test.YtklfojmflmablaaGreatDoorGi
import Derived.Test.YtklfojmflmablaaGreatDoorAw
namespace Go.Proofs.YtklfojmflmablaaGreatDoor
open Go Go.RowKit Go.Shelf

theorem boxA_c {W : World} {B : Nat} {v : Value} {r : Bs} {j : Bool} (h : BoxA W B v r j) : W.cell? ⟨B, 0, none⟩ = some v ∧ W.cell? ⟨B, 1, none⟩ = some (.bool r.cell) ∧ W.cell? ⟨B, 2, none⟩ = some (.int .i64 r.n) ∧ W.cell? ⟨B, 3, none⟩ = some (.bool j) :=
  ⟨cell_of_row W B 0 _ 26 (0, 0) h, cell_of_row W B 1 _ 26 (0, 0) h, cell_of_row W B 2 _ 26 (0, 0) h, cell_of_row W B 3 _ 26 (0, 0) h⟩
theorem ans_len (a : Ar) (m : Mv) : (ansRes a m).1.length ≤ 1000 := by
  unfold ansRes
  split
  · simp
  · rename_i hc
    have hc : checkRes a = 0 := Classical.not_not.1 hc
    split
    · simp
    · rename_i p hp
      have h64 := places_ok hc (which_mem hp).1
      unfold answRes
      split
      · have := answ_le (p := p) h64; unfold tellOf; dsimp only; omega
      · split
        · have := answ_le (p := p) (n := 1) (by omega); unfold doneOf; dsimp only; omega
        · simp
theorem under_len (a : Ar) (m : Mv) : (underOf a m).1.length ≤ 1000000 := by
  unfold underOf
  split
  · simp
  · rename_i hc
    have hc : checkRes a = 0 := Classical.not_not.1 hc
    split
    · simp
    · rename_i p hp
      unfold underRes
      split
      · simp
      · have := movesBy_quests (so := underB p) hc; dsimp only; omega

set_option maxRecDepth 100000 in
set_option maxHeartbeats 4000000 in
theorem law4_true (v : Value) (a : Ar) (m : Mv) (w : World) (h : Laid w) (hv : TyIn w w.heap.size v a.ids) (hth : thinB a = true) :
    Calls Tryz.prog 4 #[arV v a.root a.jumps, mvV m] w fun e w' => e = .returned (.bool true) ∧ Below w.heap.size w w' := by
  have HLD := Lib.hid h
  have HV := Lib.hid hv
  obtain ⟨A, c, rfl⟩ := tyIn_slice hv
  obtain ⟨w1, hw1⟩ : ∃ w1, (w.alloc (.cells #[.slice A a.ids.length c, .bool a.root.cell, .int .i64 a.root.n, .bool a.jumps] 26)).alloc (.cells #[.int .i64 m.id, .int .i64 m.arg, .int .u8 m.kind, .int .i64 m.n] 40) = w1 := ⟨_, rfl⟩
  have hb : Below w.heap.size w w1 := by rw [← hw1]; exact ((Below.refl _ w).alloc (Nat.le_refl _) _).alloc (by simp) _
  have x0 : BoxA w1 w.heap.size (.slice A a.ids.length c) a.root a.jumps := by rw [← hw1]; exact (Below.heap_alloc _ _ _ (by simp)).trans (World.alloc_heap_new w _)
  have x1 : BoxM w1 (w.heap.size + 1) m := by
    rw [← hw1]; have := BoxM.new (w.alloc (.cells #[.slice A a.ids.length c, .bool a.root.cell, .int .i64 a.root.n, .bool a.jumps] 26)) m; rwa [World.size_alloc] at this
  have HB := Lib.hid hb
  have HX0 := Lib.hid x0
  have HX1 := Lib.hid x1
  have HLT := Lib.hid x1.lt
  obtain ⟨c0, c1, c2, c3⟩ := boxA_c x0
  have m0 := x1.c0
  have m1 := x1.c1
  have m2 := x1.c2
  have m3 := x1.c3
  have CT : Hid (∀ W, Below w.heap.size w W → Calls Tryz.prog 17 #[arV (.slice A a.ids.length c) a.root a.jumps] W fun e w' => e = .returned (.bool (thinB a)) ∧ Below W.heap.size W w') := Lib.hid fun W hW => thin_any _ a W (tyIn_later HV.out hW)
  rw [hth] at CT
  obtain ⟨h12, h8⟩ := thin_len hth
  have h1000 : ∀ t ∈ a.ids, t.params.length ≤ 1000 := fun t ht => by have := h8 t ht; omega
  have hbig : ∀ t ∈ a.ids, t.params.length ≤ 140737488355328 := fun t ht => by have := h8 t ht; omega
  have C19 : Hid (∀ W, Below w.heap.size w W → Calls Tryz.prog 19 #[arV (.slice A a.ids.length c) a.root a.jumps] W fun e w' => ∃ A' c', e = .returned (arV (.slice A' a.ids.length c') a.root a.jumps) ∧ Hid (TyIn w' w'.heap.size (.slice A' a.ids.length c') a.ids) ∧ Below W.heap.size W w') := Lib.hid fun W hW => by
    refine (copy_any (.slice A a.ids.length c) a W (by omega) h1000 (tyIn_later HV.out hW)).mono ?_
    rintro e w' ⟨v', rfl, ht, hb⟩
    obtain ⟨A', c', rfl⟩ := tyIn_slice ht
    exact ⟨A', c', rfl, Lib.hid ht, hb⟩
  obtain ⟨⟨la, ae⟩, hAn⟩ : ∃ F, ansRes a m = F := ⟨_, rfl⟩
  obtain ⟨⟨lu, ue⟩, hUn⟩ : ∃ F, underOf a m = F := ⟨_, rfl⟩
  obtain ⟨⟨ob, oe⟩, hOt⟩ : ∃ F, otherRes a m = F := ⟨_, rfl⟩
  have hla : la.length ≤ 1000 := by have := ans_len a m; rw [hAn] at this; exact this
  have hlu : lu.length ≤ 1000000 := by have := under_len a m; rw [hUn] at this; exact this
  have C28 : Hid (∀ W A' c', TyIn W W.heap.size (.slice A' a.ids.length c') a.ids → Calls Tryz.prog 28 #[arV (.slice A' a.ids.length c') a.root a.jumps, mvV m] W fun e w' => e = .returned (.tuple #[.bool (hasRes a m).1, .int .i64 (hasRes a m).2]) ∧ Below W.heap.size W w') := Lib.hid fun W A' c' ht => arHas_any _ a m W (by omega) hbig ht
  have C29 : Hid (∀ W A' c', TyIn W W.heap.size (.slice A' a.ids.length c') a.ids → Calls Tryz.prog 29 #[arV (.slice A' a.ids.length c') a.root a.jumps, mvV m] W fun e w' => e = .returned (.tuple #[.bool ob, .int .i64 oe]) ∧ Below W.heap.size W w') := Lib.hid fun W A' c' ht => by
    have := isOther_any _ a m W (by omega) hbig ht
    rw [hOt] at this
    exact this
  have C30 : Hid (∀ W A' c', TyIn W W.heap.size (.slice A' a.ids.length c') a.ids → Calls Tryz.prog 30 #[arV (.slice A' a.ids.length c') a.root a.jumps, mvV m] W fun e w' => ∃ B k c, e = .returned (.tuple #[.slice B k c, .int .i64 ae]) ∧ Hid (MvIn w' w'.heap.size (.slice B k c) la) ∧ Below W.heap.size W w') := Lib.hid fun W A' c' ht => by
    refine (answers_call _ a m W (by omega) hbig ht).mono ?_
    rintro e w' ⟨x, rfl, ho, hb⟩
    rw [hAn] at ho ⊢
    obtain ⟨B, k, c, rfl, _⟩ := mv_slice ho
    exact ⟨B, k, c, rfl, Lib.hid (mvIn_own ho), hb⟩
  have C31 : Hid (∀ W A' c', TyIn W W.heap.size (.slice A' a.ids.length c') a.ids → Calls Tryz.prog 31 #[arV (.slice A' a.ids.length c') a.root a.jumps, mvV m] W fun e w' => ∃ B k c, e = .returned (.tuple #[.slice B k c, .int .i64 ue]) ∧ Hid (MvIn w' w'.heap.size (.slice B k c) lu) ∧ Below W.heap.size W w') := Lib.hid fun W A' c' ht => by
    refine (under_call _ a m W (by omega) hbig ht).mono ?_
    rintro e w' ⟨x, rfl, ho, hb⟩
    rw [hUn] at ho ⊢
    obtain ⟨B, k, c, rfl, _⟩ := mv_slice ho
    exact ⟨B, k, c, rfl, Lib.hid (mvIn_own ho), hb⟩
  have C32 : Hid (∀ W, Below w.heap.size w W → Calls Tryz.prog 32 #[arV (.slice A a.ids.length c) a.root a.jumps, mvV m] W fun e w' => e = .returned (.tuple #[.bool ob, .int .i64 oe]) ∧ Below W.heap.size W w') := Lib.hid fun W hW => by
    have := whose_any _ a m W (by omega) h1000 (tyIn_later HV.out hW)
    rw [hOt] at this
    exact this
  have C33 : Hid (∀ W, Below w.heap.size w W → Calls Tryz.prog 33 #[arV (.slice A a.ids.length c) a.root a.jumps, mvV m] W fun e w' => ∃ B k c, e = .returned (.tuple #[.slice B k c, .int .i64 ae]) ∧ Hid (MvIn w' w'.heap.size (.slice B k c) la) ∧ Below W.heap.size W w') := Lib.hid fun W hW => by
    refine (refAnswers_any _ a m W (by omega) h1000 (tyIn_later HV.out hW)).mono ?_
    rintro e w' ⟨x, rfl, ho, hb⟩
    rw [hAn] at ho ⊢
    obtain ⟨B, k, c, rfl, _⟩ := mv_slice ho
    exact ⟨B, k, c, rfl, Lib.hid (mvIn_own ho), hb⟩
  have C34 : Hid (∀ W, Below w.heap.size w W → Calls Tryz.prog 34 #[arV (.slice A a.ids.length c) a.root a.jumps, mvV m] W fun e w' => ∃ B k c, e = .returned (.tuple #[.slice B k c, .int .i64 ue]) ∧ Hid (MvIn w' w'.heap.size (.slice B k c) lu) ∧ Below W.heap.size W w') := Lib.hid fun W hW => by
    refine (refUnder_any _ a m W (by omega) h1000 (tyIn_later HV.out hW)).mono ?_
    rintro e w' ⟨x, rfl, ho, hb⟩
    rw [hUn] at ho ⊢
    obtain ⟨B, k, c, rfl, _⟩ := mv_slice ho
    exact ⟨B, k, c, rfl, Lib.hid (mvIn_own ho), hb⟩
  have C25 : Hid (∀ W, Below w.heap.size w W → Calls Tryz.prog 25 #[arV (.slice A a.ids.length c) a.root a.jumps] W fun e w' => e = .returned (.int .i64 (checkRes a)) ∧ Below W.heap.size W w') := Lib.hid fun W hW => refCheck_any _ a W (by omega) h1000 (tyIn_later HV.out hW)
  have C35 : Hid (checkRes a = 0 → ∀ W, Below w.heap.size w W → Calls Tryz.prog 35 #[arV (.slice A a.ids.length c) a.root a.jumps, mvV m] W fun e w' => e = .returned (.bool (refHas a m)) ∧ Below W.heap.size W w') := Lib.hid fun hck W hW => refHas_any _ a m W hck (tyIn_later HV.out hW)
  have CSA : Hid (∀ W B k c B' k' c', MvIn W W.heap.size (.slice B k c) la → MvIn W W.heap.size (.slice B' k' c') la → Calls Tryz.prog 26 #[.slice B k c, .slice B' k' c'] W fun e w' => e = .returned (.bool true) ∧ Below W.heap.size W w') := Lib.hid fun W B k c B' k' c' h1 h2 => sameWord_any _ _ la W (by omega) h1 h2
  have CSU : Hid (∀ W B k c B' k' c', MvIn W W.heap.size (.slice B k c) lu → MvIn W W.heap.size (.slice B' k' c') lu → Calls Tryz.prog 26 #[.slice B k c, .slice B' k' c'] W fun e w' => e = .returned (.bool true) ∧ Below W.heap.size W w') := Lib.hid fun W B k c B' k' c' h1 h2 => sameWord_any _ _ lu W hlu h1 h2
  obtain ⟨hr, hhr⟩ : ∃ r, refHas a m = r := ⟨_, rfl⟩
  have HH : Hid (hasRes a m = if checkRes a ≠ 0 then (false, checkRes a) else (hr, 0)) := Lib.hid (by unfold hasRes; rw [hhr])
  rw [hhr] at C35
  obtain ⟨ck, hck⟩ : ∃ r, checkRes a = r := ⟨_, rfl⟩
  rw [hck] at C25 C35 HH
  clear hb x0 x1 hv h hth h12 h8 h1000 hbig hAn hUn hOt hla hlu hhr hck
  by_cases hk : ck = 0
  · subst hk
    have C35n := Lib.hid (C35.out rfl)
    clear C35
    have C35 := C35n
    clear C35n
    rw [if_neg (by simp)] at HH
    rw [HH.out] at C28
    unfold arV at CT C19 C28 C29 C30 C31 C32 C33 C34 C25 C35 ⊢
    obtain ⟨mi, ma, mk, mn⟩ := m
    unfold mvV at C28 C29 C30 C31 C32 C33 C34 C35 ⊢
    dsimp only at hw1 m0 m1 m2 m3 C28 C29 C30 C31 C32 C33 C34 C35 ⊢
    clear HH
    cases hr
    all_goals (
      go_enter Tryz.func4, Tryz.ntmps4
      go_wp2_with (go_at_call 17; refine (CT.out _ HB.out).mono ?_; rintro e w2 ⟨rfl, hb⟩; have h1 : Below w1.heap.size w1 w2 := hb; have z0 : BoxA w2 _ _ _ _ := (h1.block _ HX0.out.lt).trans HX0.out; have z1 : BoxM w2 _ _ := (h1.block _ HX1.out.lt).trans HX1.out; obtain ⟨q0, q1, q2, q3⟩ := boxA_c z0; have n0 := z1.c0; have n1 := z1.c1; have n2 := z1.c2; have n3 := z1.c3; dsimp only at n0 n1 n2 n3; clear z0 z1)
      have h1 := h1.drew
      go_region_held3 (fun W => W.cell? ⟨w.heap.size, 0, none⟩ = some (.slice A a.ids.length c) ∧ W.cell? ⟨w.heap.size, 1, none⟩ = some (.bool a.root.cell) ∧ W.cell? ⟨w.heap.size, 2, none⟩ = some (.int .i64 a.root.n) ∧ W.cell? ⟨w.heap.size, 3, none⟩ = some (.bool a.jumps) ∧
          W.cell? ⟨w.heap.size + 1, 0, none⟩ = some (.int .i64 mi) ∧ W.cell? ⟨w.heap.size + 1, 1, none⟩ = some (.int .i64 ma) ∧ W.cell? ⟨w.heap.size + 1, 2, none⟩ = some (.int .u8 mk) ∧ W.cell? ⟨w.heap.size + 1, 3, none⟩ = some (.int .i64 mn))
        (first
          | go_keep
          | (go_split_ands
             refine ⟨?_, ?_, ?_, ?_, ?_, ?_, ?_, ?_⟩ <;> (refine (h1.cell (by have := HLT.out; simp; omega)).trans ?_; assumption))
          | (trace_state; fail))
        (first
        | (go_at_call 19; refine (C19.out _ (HB.out.trans (h1.mono HB.out.size))).mono ?_; rintro e W ⟨A', c', rfl, ht, hb⟩; have h1 : Below w1.heap.size w1 W := h1.trans (hb.mono h1.size))
        | (go_at_call 28; refine (C28.out _ _ _ ht.out).mono ?_; rintro e W' ⟨rfl, hb⟩; have h1 : Below w1.heap.size w1 W' := h1.trans (hb.mono h1.size)))
      rename_i hheld
      obtain ⟨q0, q1, q2, q3, n0, n1, n2, n3⟩ := hheld
      go_wp2
      have h1 := h1.drew
      go_region_held3 (fun W => W.cell? ⟨w.heap.size, 0, none⟩ = some (.slice A a.ids.length c) ∧ W.cell? ⟨w.heap.size, 1, none⟩ = some (.bool a.root.cell) ∧ W.cell? ⟨w.heap.size, 2, none⟩ = some (.int .i64 a.root.n) ∧ W.cell? ⟨w.heap.size, 3, none⟩ = some (.bool a.jumps) ∧
          W.cell? ⟨w.heap.size + 1, 0, none⟩ = some (.int .i64 mi) ∧ W.cell? ⟨w.heap.size + 1, 1, none⟩ = some (.int .i64 ma) ∧ W.cell? ⟨w.heap.size + 1, 2, none⟩ = some (.int .u8 mk) ∧ W.cell? ⟨w.heap.size + 1, 3, none⟩ = some (.int .i64 mn))
        (first
          | go_keep
          | (go_split_ands
             refine ⟨?_, ?_, ?_, ?_, ?_, ?_, ?_, ?_⟩ <;> (refine (h1.cell (by have := HLT.out; simp; omega)).trans ?_; assumption))
          | (trace_state; fail))
        (first
        | (go_at_call 19; refine (C19.out _ (HB.out.trans (h1.mono HB.out.size))).mono ?_; rintro e W ⟨A', c', rfl, ht, hb⟩; have h1 : Below w1.heap.size w1 W := h1.trans (hb.mono h1.size))
        | (go_at_call 29; refine (C29.out _ _ _ ht.out).mono ?_; rintro e W' ⟨rfl, hb⟩; have h1 : Below w1.heap.size w1 W' := h1.trans (hb.mono h1.size)))
      rename_i hheld
      obtain ⟨q0, q1, q2, q3, n0, n1, n2, n3⟩ := hheld
      go_wp2
      have h1 := h1.drew
      go_region_held3 (fun W => W.cell? ⟨w.heap.size, 0, none⟩ = some (.slice A a.ids.length c) ∧ W.cell? ⟨w.heap.size, 1, none⟩ = some (.bool a.root.cell) ∧ W.cell? ⟨w.heap.size, 2, none⟩ = some (.int .i64 a.root.n) ∧ W.cell? ⟨w.heap.size, 3, none⟩ = some (.bool a.jumps) ∧
          W.cell? ⟨w.heap.size + 1, 0, none⟩ = some (.int .i64 mi) ∧ W.cell? ⟨w.heap.size + 1, 1, none⟩ = some (.int .i64 ma) ∧ W.cell? ⟨w.heap.size + 1, 2, none⟩ = some (.int .u8 mk) ∧ W.cell? ⟨w.heap.size + 1, 3, none⟩ = some (.int .i64 mn))
        (first
          | go_keep
          | (go_split_ands
             refine ⟨?_, ?_, ?_, ?_, ?_, ?_, ?_, ?_⟩ <;> (refine (h1.cell (by have := HLT.out; simp; omega)).trans ?_; assumption))
          | (trace_state; fail))
        (first
        | (go_at_call 19; refine (C19.out _ (HB.out.trans (h1.mono HB.out.size))).mono ?_; rintro e W ⟨A', c', rfl, ht, hb⟩; have h1 : Below w1.heap.size w1 W := h1.trans (hb.mono h1.size))
        | (go_at_call 30; refine (C30.out _ _ _ ht.out).mono ?_; rintro e W' ⟨XA, Xk, Xc, rfl, HX, hb⟩; have h1 : Below w1.heap.size w1 W' := h1.trans (hb.mono h1.size)))
      rename_i hheld
      obtain ⟨q0, q1, q2, q3, n0, n1, n2, n3⟩ := hheld
      go_wp2
      have h1 := h1.drew
      have HX := Lib.hid (HX.out.later ((Below.refl _ _).drew))
      go_region_held3 (fun W => W.cell? ⟨w.heap.size, 0, none⟩ = some (.slice A a.ids.length c) ∧ W.cell? ⟨w.heap.size, 1, none⟩ = some (.bool a.root.cell) ∧ W.cell? ⟨w.heap.size, 2, none⟩ = some (.int .i64 a.root.n) ∧ W.cell? ⟨w.heap.size, 3, none⟩ = some (.bool a.jumps) ∧
          W.cell? ⟨w.heap.size + 1, 0, none⟩ = some (.int .i64 mi) ∧ W.cell? ⟨w.heap.size + 1, 1, none⟩ = some (.int .i64 ma) ∧ W.cell? ⟨w.heap.size + 1, 2, none⟩ = some (.int .u8 mk) ∧ W.cell? ⟨w.heap.size + 1, 3, none⟩ = some (.int .i64 mn))
        (first
          | go_keep
          | (go_split_ands
             refine ⟨?_, ?_, ?_, ?_, ?_, ?_, ?_, ?_⟩ <;> (refine (h1.cell (by have := HLT.out; simp; omega)).trans ?_; assumption))
          | (trace_state; fail))
        (first
        | (go_at_call 19; refine (C19.out _ (HB.out.trans (h1.mono HB.out.size))).mono ?_; rintro e W ⟨A', c', rfl, ht, hb⟩; have h1 : Below w1.heap.size w1 W := h1.trans (hb.mono h1.size); have HX := Lib.hid (HX.out.later hb))
        | (go_at_call 31; refine (C31.out _ _ _ ht.out).mono ?_; rintro e W' ⟨YA, Yk, Yc, rfl, HY, hb⟩; have h1 : Below w1.heap.size w1 W' := h1.trans (hb.mono h1.size); have HX := Lib.hid (HX.out.later hb)))
      rename_i hheld
      obtain ⟨q0, q1, q2, q3, n0, n1, n2, n3⟩ := hheld
      go_wp2_with (first
        | (go_at_call 32; refine (C32.out _ (HB.out.trans (h1.mono HB.out.size))).mono ?_; rintro e w32 ⟨rfl, hb⟩; have h1 : Below w1.heap.size w1 w32 := h1.trans (hb.mono h1.size); have HX := Lib.hid (HX.out.later hb); have HY := Lib.hid (HY.out.later hb); have z0 : BoxA w32 _ _ _ _ := (h1.block _ HX0.out.lt).trans HX0.out; have z1 : BoxM w32 _ _ := (h1.block _ HX1.out.lt).trans HX1.out; obtain ⟨q0, q1, q2, q3⟩ := boxA_c z0; have n0 := z1.c0; have n1 := z1.c1; have n2 := z1.c2; have n3 := z1.c3; dsimp only at n0 n1 n2 n3; clear z0 z1)
        | (go_at_call 33; refine (C33.out _ (HB.out.trans (h1.mono HB.out.size))).mono ?_; rintro e w33 ⟨ZA, Zk, Zc, rfl, HZ, hb⟩; have h1 : Below w1.heap.size w1 w33 := h1.trans (hb.mono h1.size); have HX := Lib.hid (HX.out.later hb); have HY := Lib.hid (HY.out.later hb); have z0 : BoxA w33 _ _ _ _ := (h1.block _ HX0.out.lt).trans HX0.out; have z1 : BoxM w33 _ _ := (h1.block _ HX1.out.lt).trans HX1.out; obtain ⟨q0, q1, q2, q3⟩ := boxA_c z0; have n0 := z1.c0; have n1 := z1.c1; have n2 := z1.c2; have n3 := z1.c3; dsimp only at n0 n1 n2 n3; clear z0 z1)
        | (go_at_call 34; refine (C34.out _ (HB.out.trans (h1.mono HB.out.size))).mono ?_; rintro e w34 ⟨VA, Vk, Vc, rfl, HV4, hb⟩; have h1 : Below w1.heap.size w1 w34 := h1.trans (hb.mono h1.size); have HX := Lib.hid (HX.out.later hb); have HY := Lib.hid (HY.out.later hb); have HZ := Lib.hid (HZ.out.later hb); have z0 : BoxA w34 _ _ _ _ := (h1.block _ HX0.out.lt).trans HX0.out; have z1 : BoxM w34 _ _ := (h1.block _ HX1.out.lt).trans HX1.out; obtain ⟨q0, q1, q2, q3⟩ := boxA_c z0; have n0 := z1.c0; have n1 := z1.c1; have n2 := z1.c2; have n3 := z1.c3; dsimp only at n0 n1 n2 n3; clear z0 z1)
        | (go_at_call 25; refine (C25.out _ (HB.out.trans (h1.mono HB.out.size))).mono ?_; rintro e w25 ⟨rfl, hb⟩; have h1 : Below w1.heap.size w1 w25 := h1.trans (hb.mono h1.size); have HX := Lib.hid (HX.out.later hb); have HY := Lib.hid (HY.out.later hb); have HZ := Lib.hid (HZ.out.later hb); have HV4 := Lib.hid (HV4.out.later hb); have z0 : BoxA w25 _ _ _ _ := (h1.block _ HX0.out.lt).trans HX0.out; have z1 : BoxM w25 _ _ := (h1.block _ HX1.out.lt).trans HX1.out; obtain ⟨q0, q1, q2, q3⟩ := boxA_c z0; have n0 := z1.c0; have n1 := z1.c1; have n2 := z1.c2; have n3 := z1.c3; dsimp only at n0 n1 n2 n3; clear z0 z1)
        | (go_at_call 35; refine (C35.out _ (HB.out.trans (h1.mono HB.out.size))).mono ?_; rintro e w35 ⟨rfl, hb⟩; have h1 : Below w1.heap.size w1 w35 := h1.trans (hb.mono h1.size); have HX := Lib.hid (HX.out.later hb); have HY := Lib.hid (HY.out.later hb); have HZ := Lib.hid (HZ.out.later hb); have HV4 := Lib.hid (HV4.out.later hb); have z0 : BoxA w35 _ _ _ _ := (h1.block _ HX0.out.lt).trans HX0.out; have z1 : BoxM w35 _ _ := (h1.block _ HX1.out.lt).trans HX1.out; obtain ⟨q0, q1, q2, q3⟩ := boxA_c z0; have n0 := z1.c0; have n1 := z1.c1; have n2 := z1.c2; have n3 := z1.c3; dsimp only at n0 n1 n2 n3; clear z0 z1)
        | (go_at_call 26; first
          | ((with_reducible refine (CSA.out _ _ _ _ _ _ _ HX.out HZ.out).mono ?_); rintro e w26 ⟨rfl, hb⟩; have h1 : Below w1.heap.size w1 w26 := h1.trans (hb.mono h1.size); have HX := Lib.hid (HX.out.later hb); have HY := Lib.hid (HY.out.later hb); have HZ := Lib.hid (HZ.out.later hb); have HV4 := Lib.hid (HV4.out.later hb))
          | ((with_reducible refine (CSU.out _ _ _ _ _ _ _ HY.out HV4.out).mono ?_); rintro e w27 ⟨rfl, hb⟩; have h1 : Below w1.heap.size w1 w27 := h1.trans (hb.mono h1.size)))
        | (go_at_call 18; refine (awake_any _ (HLD.out.later (HB.out.trans (h1.mono HB.out.size)))).mono ?_; rintro e w18 ⟨rfl, hb⟩; have h1 : Below w1.heap.size w1 w18 := h1.trans (hb.mono h1.size)))
      go_ret
      exact ⟨rfl, HB.out.trans (h1.mono HB.out.size)⟩)
  · have hne : (ck == 0) = false := by simpa using hk
    rw [if_pos hk] at HH
    rw [HH.out] at C28
    unfold arV at CT C19 C28 C29 C30 C31 C32 C33 C34 C25 ⊢
    obtain ⟨mi, ma, mk, mn⟩ := m
    unfold mvV at C28 C29 C30 C31 C32 C33 C34 ⊢
    dsimp only at hw1 m0 m1 m2 m3 C28 C29 C30 C31 C32 C33 C34 ⊢
    clear HH hk C35
    go_enter Tryz.func4, Tryz.ntmps4
    go_wp2_with (go_at_call 17; refine (CT.out _ HB.out).mono ?_; rintro e w2 ⟨rfl, hb⟩; have h1 : Below w1.heap.size w1 w2 := hb; have z0 : BoxA w2 _ _ _ _ := (h1.block _ HX0.out.lt).trans HX0.out; have z1 : BoxM w2 _ _ := (h1.block _ HX1.out.lt).trans HX1.out; obtain ⟨q0, q1, q2, q3⟩ := boxA_c z0; have n0 := z1.c0; have n1 := z1.c1; have n2 := z1.c2; have n3 := z1.c3; dsimp only at n0 n1 n2 n3; clear z0 z1)
    have h1 := h1.drew
    go_region_held3 (fun W => W.cell? ⟨w.heap.size, 0, none⟩ = some (.slice A a.ids.length c) ∧ W.cell? ⟨w.heap.size, 1, none⟩ = some (.bool a.root.cell) ∧ W.cell? ⟨w.heap.size, 2, none⟩ = some (.int .i64 a.root.n) ∧ W.cell? ⟨w.heap.size, 3, none⟩ = some (.bool a.jumps) ∧
        W.cell? ⟨w.heap.size + 1, 0, none⟩ = some (.int .i64 mi) ∧ W.cell? ⟨w.heap.size + 1, 1, none⟩ = some (.int .i64 ma) ∧ W.cell? ⟨w.heap.size + 1, 2, none⟩ = some (.int .u8 mk) ∧ W.cell? ⟨w.heap.size + 1, 3, none⟩ = some (.int .i64 mn))
      (first
        | go_keep
        | (go_split_ands
           refine ⟨?_, ?_, ?_, ?_, ?_, ?_, ?_, ?_⟩ <;> (refine (h1.cell (by have := HLT.out; simp; omega)).trans ?_; assumption))
        | (trace_state; fail))
      (first
      | (go_at_call 19; refine (C19.out _ (HB.out.trans (h1.mono HB.out.size))).mono ?_; rintro e W ⟨A', c', rfl, ht, hb⟩; have h1 : Below w1.heap.size w1 W := h1.trans (hb.mono h1.size))
      | (go_at_call 28; refine (C28.out _ _ _ ht.out).mono ?_; rintro e W' ⟨rfl, hb⟩; have h1 : Below w1.heap.size w1 W' := h1.trans (hb.mono h1.size)))
    rename_i hheld
    obtain ⟨q0, q1, q2, q3, n0, n1, n2, n3⟩ := hheld
    go_wp2
    have h1 := h1.drew
    go_region_held3 (fun W => W.cell? ⟨w.heap.size, 0, none⟩ = some (.slice A a.ids.length c) ∧ W.cell? ⟨w.heap.size, 1, none⟩ = some (.bool a.root.cell) ∧ W.cell? ⟨w.heap.size, 2, none⟩ = some (.int .i64 a.root.n) ∧ W.cell? ⟨w.heap.size, 3, none⟩ = some (.bool a.jumps) ∧
        W.cell? ⟨w.heap.size + 1, 0, none⟩ = some (.int .i64 mi) ∧ W.cell? ⟨w.heap.size + 1, 1, none⟩ = some (.int .i64 ma) ∧ W.cell? ⟨w.heap.size + 1, 2, none⟩ = some (.int .u8 mk) ∧ W.cell? ⟨w.heap.size + 1, 3, none⟩ = some (.int .i64 mn))
      (first
        | go_keep
        | (go_split_ands
           refine ⟨?_, ?_, ?_, ?_, ?_, ?_, ?_, ?_⟩ <;> (refine (h1.cell (by have := HLT.out; simp; omega)).trans ?_; assumption))
        | (trace_state; fail))
      (first
      | (go_at_call 19; refine (C19.out _ (HB.out.trans (h1.mono HB.out.size))).mono ?_; rintro e W ⟨A', c', rfl, ht, hb⟩; have h1 : Below w1.heap.size w1 W := h1.trans (hb.mono h1.size))
      | (go_at_call 29; refine (C29.out _ _ _ ht.out).mono ?_; rintro e W' ⟨rfl, hb⟩; have h1 : Below w1.heap.size w1 W' := h1.trans (hb.mono h1.size)))
    rename_i hheld
    obtain ⟨q0, q1, q2, q3, n0, n1, n2, n3⟩ := hheld
    go_wp2
    have h1 := h1.drew
    go_region_held3 (fun W => W.cell? ⟨w.heap.size, 0, none⟩ = some (.slice A a.ids.length c) ∧ W.cell? ⟨w.heap.size, 1, none⟩ = some (.bool a.root.cell) ∧ W.cell? ⟨w.heap.size, 2, none⟩ = some (.int .i64 a.root.n) ∧ W.cell? ⟨w.heap.size, 3, none⟩ = some (.bool a.jumps) ∧
        W.cell? ⟨w.heap.size + 1, 0, none⟩ = some (.int .i64 mi) ∧ W.cell? ⟨w.heap.size + 1, 1, none⟩ = some (.int .i64 ma) ∧ W.cell? ⟨w.heap.size + 1, 2, none⟩ = some (.int .u8 mk) ∧ W.cell? ⟨w.heap.size + 1, 3, none⟩ = some (.int .i64 mn))
      (first
        | go_keep
        | (go_split_ands
           refine ⟨?_, ?_, ?_, ?_, ?_, ?_, ?_, ?_⟩ <;> (refine (h1.cell (by have := HLT.out; simp; omega)).trans ?_; assumption))
        | (trace_state; fail))
      (first
      | (go_at_call 19; refine (C19.out _ (HB.out.trans (h1.mono HB.out.size))).mono ?_; rintro e W ⟨A', c', rfl, ht, hb⟩; have h1 : Below w1.heap.size w1 W := h1.trans (hb.mono h1.size))
      | (go_at_call 30; refine (C30.out _ _ _ ht.out).mono ?_; rintro e W' ⟨XA, Xk, Xc, rfl, HX, hb⟩; have h1 : Below w1.heap.size w1 W' := h1.trans (hb.mono h1.size)))
    rename_i hheld
    obtain ⟨q0, q1, q2, q3, n0, n1, n2, n3⟩ := hheld
    go_wp2
    have h1 := h1.drew
    have HX := Lib.hid (HX.out.later ((Below.refl _ _).drew))
    go_region_held3 (fun W => W.cell? ⟨w.heap.size, 0, none⟩ = some (.slice A a.ids.length c) ∧ W.cell? ⟨w.heap.size, 1, none⟩ = some (.bool a.root.cell) ∧ W.cell? ⟨w.heap.size, 2, none⟩ = some (.int .i64 a.root.n) ∧ W.cell? ⟨w.heap.size, 3, none⟩ = some (.bool a.jumps) ∧
        W.cell? ⟨w.heap.size + 1, 0, none⟩ = some (.int .i64 mi) ∧ W.cell? ⟨w.heap.size + 1, 1, none⟩ = some (.int .i64 ma) ∧ W.cell? ⟨w.heap.size + 1, 2, none⟩ = some (.int .u8 mk) ∧ W.cell? ⟨w.heap.size + 1, 3, none⟩ = some (.int .i64 mn))
      (first
        | go_keep
        | (go_split_ands
           refine ⟨?_, ?_, ?_, ?_, ?_, ?_, ?_, ?_⟩ <;> (refine (h1.cell (by have := HLT.out; simp; omega)).trans ?_; assumption))
        | (trace_state; fail))
      (first
      | (go_at_call 19; refine (C19.out _ (HB.out.trans (h1.mono HB.out.size))).mono ?_; rintro e W ⟨A', c', rfl, ht, hb⟩; have h1 : Below w1.heap.size w1 W := h1.trans (hb.mono h1.size); have HX := Lib.hid (HX.out.later hb))
      | (go_at_call 31; refine (C31.out _ _ _ ht.out).mono ?_; rintro e W' ⟨YA, Yk, Yc, rfl, HY, hb⟩; have h1 : Below w1.heap.size w1 W' := h1.trans (hb.mono h1.size); have HX := Lib.hid (HX.out.later hb)))
    rename_i hheld
    obtain ⟨q0, q1, q2, q3, n0, n1, n2, n3⟩ := hheld
    go_wp2_with (first
      | (go_at_call 32; refine (C32.out _ (HB.out.trans (h1.mono HB.out.size))).mono ?_; rintro e w32 ⟨rfl, hb⟩; have h1 : Below w1.heap.size w1 w32 := h1.trans (hb.mono h1.size); have HX := Lib.hid (HX.out.later hb); have HY := Lib.hid (HY.out.later hb); have z0 : BoxA w32 _ _ _ _ := (h1.block _ HX0.out.lt).trans HX0.out; have z1 : BoxM w32 _ _ := (h1.block _ HX1.out.lt).trans HX1.out; obtain ⟨q0, q1, q2, q3⟩ := boxA_c z0; have n0 := z1.c0; have n1 := z1.c1; have n2 := z1.c2; have n3 := z1.c3; dsimp only at n0 n1 n2 n3; clear z0 z1)
      | (go_at_call 33; refine (C33.out _ (HB.out.trans (h1.mono HB.out.size))).mono ?_; rintro e w33 ⟨ZA, Zk, Zc, rfl, HZ, hb⟩; have h1 : Below w1.heap.size w1 w33 := h1.trans (hb.mono h1.size); have HX := Lib.hid (HX.out.later hb); have HY := Lib.hid (HY.out.later hb); have z0 : BoxA w33 _ _ _ _ := (h1.block _ HX0.out.lt).trans HX0.out; have z1 : BoxM w33 _ _ := (h1.block _ HX1.out.lt).trans HX1.out; obtain ⟨q0, q1, q2, q3⟩ := boxA_c z0; have n0 := z1.c0; have n1 := z1.c1; have n2 := z1.c2; have n3 := z1.c3; dsimp only at n0 n1 n2 n3; clear z0 z1)
      | (go_at_call 34; refine (C34.out _ (HB.out.trans (h1.mono HB.out.size))).mono ?_; rintro e w34 ⟨VA, Vk, Vc, rfl, HV4, hb⟩; have h1 : Below w1.heap.size w1 w34 := h1.trans (hb.mono h1.size); have HX := Lib.hid (HX.out.later hb); have HY := Lib.hid (HY.out.later hb); have HZ := Lib.hid (HZ.out.later hb); have z0 : BoxA w34 _ _ _ _ := (h1.block _ HX0.out.lt).trans HX0.out; have z1 : BoxM w34 _ _ := (h1.block _ HX1.out.lt).trans HX1.out; obtain ⟨q0, q1, q2, q3⟩ := boxA_c z0; have n0 := z1.c0; have n1 := z1.c1; have n2 := z1.c2; have n3 := z1.c3; dsimp only at n0 n1 n2 n3; clear z0 z1)
      | (go_at_call 25; refine (C25.out _ (HB.out.trans (h1.mono HB.out.size))).mono ?_; rintro e w25 ⟨rfl, hb⟩; have h1 : Below w1.heap.size w1 w25 := h1.trans (hb.mono h1.size); have HX := Lib.hid (HX.out.later hb); have HY := Lib.hid (HY.out.later hb); have HZ := Lib.hid (HZ.out.later hb); have HV4 := Lib.hid (HV4.out.later hb); have z0 : BoxA w25 _ _ _ _ := (h1.block _ HX0.out.lt).trans HX0.out; have z1 : BoxM w25 _ _ := (h1.block _ HX1.out.lt).trans HX1.out; obtain ⟨q0, q1, q2, q3⟩ := boxA_c z0; have n0 := z1.c0; have n1 := z1.c1; have n2 := z1.c2; have n3 := z1.c3; dsimp only at n0 n1 n2 n3; clear z0 z1)
      | (go_at_call 26; first
        | ((with_reducible refine (CSA.out _ _ _ _ _ _ _ HX.out HZ.out).mono ?_); rintro e w26 ⟨rfl, hb⟩; have h1 : Below w1.heap.size w1 w26 := h1.trans (hb.mono h1.size); have HX := Lib.hid (HX.out.later hb); have HY := Lib.hid (HY.out.later hb); have HZ := Lib.hid (HZ.out.later hb); have HV4 := Lib.hid (HV4.out.later hb))
        | ((with_reducible refine (CSU.out _ _ _ _ _ _ _ HY.out HV4.out).mono ?_); rintro e w27 ⟨rfl, hb⟩; have h1 : Below w1.heap.size w1 w27 := h1.trans (hb.mono h1.size)))
      | (go_at_call 18; refine (awake_any _ (HLD.out.later (HB.out.trans (h1.mono HB.out.size)))).mono ?_; rintro e w18 ⟨rfl, hb⟩; have h1 : Below w1.heap.size w1 w18 := h1.trans (hb.mono h1.size)))
    go_ret
    exact ⟨rfl, HB.out.trans (h1.mono HB.out.size)⟩

set_option maxRecDepth 100000 in
set_option maxHeartbeats 4000000 in
theorem law4_any (v : Value) (a : Ar) (m : Mv) (w : World) (h : Laid w) (hv : TyIn w w.heap.size v a.ids) :
    Calls Tryz.prog 4 #[arV v a.root a.jumps, mvV m] w fun e w' => e = .returned (.bool true) ∧ Below w.heap.size w w' := by
  cases hth : thinB a with
  | true => exact law4_true v a m w h hv hth
  | false =>
    have HLD := Lib.hid h
    have HV := Lib.hid hv
    obtain ⟨A, c, rfl⟩ := tyIn_slice hv
    obtain ⟨w1, hw1⟩ : ∃ w1, (w.alloc (.cells #[.slice A a.ids.length c, .bool a.root.cell, .int .i64 a.root.n, .bool a.jumps] 26)).alloc (.cells #[.int .i64 m.id, .int .i64 m.arg, .int .u8 m.kind, .int .i64 m.n] 40) = w1 := ⟨_, rfl⟩
    have hb : Below w.heap.size w w1 := by rw [← hw1]; exact ((Below.refl _ w).alloc (Nat.le_refl _) _).alloc (by simp) _
    have x0 : BoxA w1 w.heap.size (.slice A a.ids.length c) a.root a.jumps := by rw [← hw1]; exact (Below.heap_alloc _ _ _ (by simp)).trans (World.alloc_heap_new w _)
    have x1 : BoxM w1 (w.heap.size + 1) m := by
      rw [← hw1]; have := BoxM.new (w.alloc (.cells #[.slice A a.ids.length c, .bool a.root.cell, .int .i64 a.root.n, .bool a.jumps] 26)) m; rwa [World.size_alloc] at this
    have HB := Lib.hid hb
    have HX0 := Lib.hid x0
    have HX1 := Lib.hid x1
    have HLT := Lib.hid x1.lt
    obtain ⟨c0, c1, c2, c3⟩ := boxA_c x0
    have m0 := x1.c0
    have m1 := x1.c1
    have m2 := x1.c2
    have m3 := x1.c3
    have CT : Hid (∀ W, Below w.heap.size w W → Calls Tryz.prog 17 #[arV (.slice A a.ids.length c) a.root a.jumps] W fun e w' => e = .returned (.bool (thinB a)) ∧ Below W.heap.size W w') := Lib.hid fun W hW => thin_any _ a W (tyIn_later HV.out hW)
    rw [hth] at CT
    unfold arV at CT ⊢
    unfold mvV
    clear hb x0 x1 hv h hth
    go_enter Tryz.func4, Tryz.ntmps4
    go_wp2_with (first
      | (go_at_call 17; refine (CT.out _ HB.out).mono ?_; rintro e w2 ⟨rfl, hb2⟩)
      | (go_at_call 18; refine (awake_any _ (HLD.out.later (HB.out.trans (hb2.mono HB.out.size)))).mono ?_; rintro e w3 ⟨rfl, hb3⟩))
    go_ret
    exact ⟨rfl, HB.out.trans ((hb2.mono HB.out.size).trans (hb3.mono (Nat.le_trans HB.out.size hb2.size)))⟩
end Go.Proofs.YtklfojmflmablaaGreatDoor
