/- Package arena: the text of a move. -/
import Derived.Test.YtklfojmflmablaaGreatDoorTv
namespace Go.Proofs.YtklfojmflmablaaGreatDoor
open Go Go.RowKit Go.Shelf

def textRes (tx : Int → ByteArray) (m : Mv) : ByteArray × Int :=
  match signOf m.kind with
  | none => (⟨#[]⟩, 4)
  | some s => if hasTx m then ((placeTx tx m ++ s) ++ valTx tx m, 0) else (⟨#[]⟩, 4)

theorem SgMap.new (w : World) : SgMap (w.alloc (.map (sgArr 3) 3)) w.heap.size := World.alloc_heap_new w _

set_option maxRecDepth 100000 in
set_option maxHeartbeats 1000000 in
theorem text_any (tx : Int → ByteArray) (m : Mv) (w : World) (hi : ItoaAt tx w m.id) (hj : ItoaAt tx w m.arg) (hn : ItoaAt tx w m.n) (h1 : (tx m.id).size ≤ 1000) (h2 : (tx m.arg).size ≤ 1000) (h3 : (tx m.n).size ≤ 1000) :
    Calls Tryz.prog 42 #[mvV m] w fun e w' => e = .returned (.tuple #[.string (textRes tx m).1, .int .i64 (textRes tx m).2]) ∧ Below w.heap.size w w' := by
  have hb := (Below.refl _ w).alloc (Nat.le_refl _) (.cells #[.int .i64 m.id, .int .i64 m.arg, .int .u8 m.kind, .int .i64 m.n] 40)
  have x0 := BoxM.new w m
  have CP : Hid (∀ W, Below w.heap.size w W → Calls Tryz.prog 109 #[mvV m] W fun e w' => e = .returned (.string (placeTx tx m)) ∧ Below W.heap.size W w') := Lib.hid fun W hW =>
    placeText_any tx m W (fun W2 h => hi W2 (hW.trans (h.mono hW.size))) (fun W2 h => hj W2 (hW.trans (h.mono hW.size))) h1 h2
  have CV : Hid (∀ W, Below w.heap.size w W → Calls Tryz.prog 110 #[mvV m] W fun e w' => e = .returned (.string (valTx tx m)) ∧ Below W.heap.size W w') := Lib.hid fun W hW =>
    valueText_any tx m W (fun W2 h => hn W2 (hW.trans (h.mono hW.size)))
  have CH : Hid (∀ W, Calls Tryz.prog 108 #[mvV m] W fun e w' => e = .returned (.bool (hasTx m)) ∧ Below W.heap.size W w') := Lib.hid (hasText_any m)
  have sp : (placeTx tx m).size ≤ 2001 := by
    unfold placeTx
    split
    · omega
    · rw [ByteArray.size_append, ByteArray.size_append]
      have : (⟨#[46]⟩ : ByteArray).size = 1 := rfl
      omega
  have sv : (valTx tx m).size ≤ 1000 := by
    unfold valTx
    split
    · exact Nat.zero_le _
    · split
      · decide
      · exact h3
  obtain ⟨TP, eP⟩ : ∃ T, placeTx tx m = T := ⟨_, rfl⟩
  obtain ⟨TV, eV⟩ : ∃ T, valTx tx m = T := ⟨_, rfl⟩
  obtain ⟨H, eH⟩ : ∃ H, hasTx m = H := ⟨_, rfl⟩
  have HR : Hid (textRes tx m = match signOf m.kind with
    | none => (⟨#[]⟩, 4)
    | some s => if H then ((TP ++ s) ++ TV, 0) else (⟨#[]⟩, 4)) := Lib.hid (by unfold textRes; rw [eP, eV, eH])
  rw [eP] at CP sp
  rw [eV] at CV sv
  rw [eH] at CH
  obtain ⟨R, hR⟩ : ∃ R, textRes tx m = R := ⟨_, rfl⟩
  rw [hR] at HR ⊢
  have LK : Hid (∀ W b, SgMap W b → (Instr.lookup 140 (.map (some b)) (.int .u8 m.kind) true).run Tryz.prog W = .ok (.tuple #[.string ((signOf m.kind).getD ⟨#[]⟩), .bool (signOf m.kind).isSome]) W) := Lib.hid fun W b h => sg_look h m.kind
  have ss : ∀ s, signOf m.kind = some s → s.size = 1 := by
    intro s; unfold signOf
    split
    · rintro ⟨⟩; rfl
    · split
      · rintro ⟨⟩; rfl
      · split
        · rintro ⟨⟩; rfl
        · intro h; cases h
  obtain ⟨G, eG⟩ : ∃ G, signOf m.kind = G := ⟨_, rfl⟩
  rw [eG] at LK HR ss
  clear eP eV eH hR eG hi hj hn h1 h2 h3
  obtain ⟨id, arg, kind, n⟩ := m
  unfold mvV at CP CV CH ⊢
  dsimp only at CP CV CH LK hb x0 ⊢
  obtain ⟨w1, hw1⟩ : ∃ w1, w.alloc (.cells #[.int .i64 id, .int .i64 arg, .int .u8 kind, .int .i64 n] 40) = w1 := ⟨_, rfl⟩
  rw [hw1] at hb x0
  have HB := Lib.hid hb
  have HX := Lib.hid x0
  have c0 := x0.c0
  have c1 := x0.c1
  have c2 := x0.c2
  have c3 := x0.c3
  dsimp only at c0 c1 c2 c3
  clear hb x0
  cases G with
  | none =>
    have HR := HR.out
    simp only [] at HR
    subst HR
    dsimp only
    go_enter Tryz.func42, Tryz.ntmps42
    go_wp2
    go_region_held3 (fun W => W.cell? ⟨w.heap.size, 0, none⟩ = some (.int .i64 id) ∧ W.cell? ⟨w.heap.size, 1, none⟩ = some (.int .i64 arg) ∧ W.cell? ⟨w.heap.size, 2, none⟩ = some (.int .u8 kind) ∧ W.cell? ⟨w.heap.size, 3, none⟩ = some (.int .i64 n))
      (first
        | go_keep
        | (go_split_ands
           refine ⟨?_, ?_, ?_, ?_⟩ <;> (repeat' (first
             | assumption
             | refine cell_alloc_some _ ?_)))
        | (trace_state; fail))
      (first
      | (go_at_call 107; refine (signs_any _).mono ?_; rintro e w2 ⟨rfl, rfl⟩; have lk := LK.out ((w1.alloc (.map (sgArr 3) 3)).drew) w1.heap.size (SgMap.new w1)))
    all_goals go_wp2
    all_goals refine bodyPost_ret (results_tmp2 rfl _ _ _) rfl ?_
    all_goals exact ⟨rfl, HB.out.trans ((((Below.refl _ w1).alloc (Nat.le_refl _) _).drew).mono HB.out.size)⟩
  | some s =>
    have hs := ss s rfl
    have a1 : ∀ W, (Op.stringOp .add TP s).run Tryz.prog W = .ok (.string (TP ++ s)) W := fun W => run_string_add_sum W TP _ (by omega)
    have a2 : ∀ W, (Op.stringOp .add (TP ++ s) TV).run Tryz.prog W = .ok (.string ((TP ++ s) ++ TV)) W := fun W => run_string_add_sum W _ _ (by rw [ByteArray.size_append]; omega)
    have HR := HR.out
    simp only [] at HR
    obtain ⟨T3, e3⟩ : ∃ T3, TP ++ s = T3 := ⟨_, rfl⟩
    rw [e3] at a1 a2 HR
    obtain ⟨T4, e4⟩ : ∃ T4, T3 ++ TV = T4 := ⟨_, rfl⟩
    rw [e4] at a2 HR
    have a3 : ∀ W, (Go.binOp .add 9 (.string TP) (.string s)).run Tryz.prog W = .ok (.string T3) W := fun W => by simp [Go.binOp, a1]
    have a4 : ∀ W, (Go.binOp .add 9 (.string T3) (.string TV)).run Tryz.prog W = .ok (.string T4) W := fun W => by simp [Go.binOp, a2]
    clear e3 e4 hs sp sv ss
    have HSZ : Hid (w.heap.size < w1.heap.size) := Lib.hid HX.out.lt
    have HAL := Lib.hid (((Below.refl _ w1).alloc (Nat.le_refl _) (.map (sgArr 3) 3)).drew)
    cases H with
    | false =>
      rw [if_neg (by simp)] at HR
      subst HR
      dsimp only
      go_enter Tryz.func42, Tryz.ntmps42
      go_wp2
      go_region_held3 (fun W => W.cell? ⟨w.heap.size, 0, none⟩ = some (.int .i64 id) ∧ W.cell? ⟨w.heap.size, 1, none⟩ = some (.int .i64 arg) ∧ W.cell? ⟨w.heap.size, 2, none⟩ = some (.int .u8 kind) ∧ W.cell? ⟨w.heap.size, 3, none⟩ = some (.int .i64 n))
      (first
        | go_keep
        | (go_split_ands
           refine ⟨?_, ?_, ?_, ?_⟩ <;> (repeat' (first
             | assumption
             | refine cell_alloc_some _ ?_)))
        | (trace_state; fail))
      (first
      | (go_at_call 107; refine (signs_any _).mono ?_; rintro e w2 ⟨rfl, rfl⟩; have lk := LK.out ((w1.alloc (.map (sgArr 3) 3)).drew) w1.heap.size (SgMap.new w1)))
      all_goals go_wp2_with (go_at_call 108; refine (CH.out _).mono ?_; rintro e w2 ⟨rfl, hb2⟩)
      all_goals refine bodyPost_ret (results_tmp2 rfl _ _ _) rfl ?_
      all_goals exact ⟨rfl, HB.out.trans ((HAL.out.trans (hb2.mono HAL.out.size)).mono HB.out.size)⟩
    | true =>
      rw [if_pos rfl] at HR
      subst HR
      dsimp only
      go_enter Tryz.func42, Tryz.ntmps42
      go_wp2
      go_region_held3 (fun W => W.cell? ⟨w.heap.size, 0, none⟩ = some (.int .i64 id) ∧ W.cell? ⟨w.heap.size, 1, none⟩ = some (.int .i64 arg) ∧ W.cell? ⟨w.heap.size, 2, none⟩ = some (.int .u8 kind) ∧ W.cell? ⟨w.heap.size, 3, none⟩ = some (.int .i64 n))
      (first
        | go_keep
        | (go_split_ands
           refine ⟨?_, ?_, ?_, ?_⟩ <;> (repeat' (first
             | assumption
             | refine cell_alloc_some _ ?_)))
        | (trace_state; fail))
      (first
      | (go_at_call 107; refine (signs_any _).mono ?_; rintro e w2 ⟨rfl, rfl⟩; have lk := LK.out ((w1.alloc (.map (sgArr 3) 3)).drew) w1.heap.size (SgMap.new w1)))
      all_goals go_wp2_with (go_at_call 108; refine (CH.out _).mono ?_; rintro e w2 ⟨rfl, hb2⟩)
      all_goals (
        have h12 : Below w1.heap.size w1 w2 := HAL.out.trans (hb2.mono HAL.out.size)
        have HB12 := Lib.hid h12
        have d0 := (h12.cell (p := ⟨w.heap.size, 0, none⟩) HSZ.out).trans c0
        have d1 := (h12.cell (p := ⟨w.heap.size, 1, none⟩) HSZ.out).trans c1
        have d2 := (h12.cell (p := ⟨w.heap.size, 2, none⟩) HSZ.out).trans c2
        have d3 := (h12.cell (p := ⟨w.heap.size, 3, none⟩) HSZ.out).trans c3
        clear c0 c1 c2 c3 hb2 h12
        go_region_held3 (fun W => W.cell? ⟨w.heap.size, 0, none⟩ = some (.int .i64 id) ∧ W.cell? ⟨w.heap.size, 1, none⟩ = some (.int .i64 arg) ∧ W.cell? ⟨w.heap.size, 2, none⟩ = some (.int .u8 kind) ∧ W.cell? ⟨w.heap.size, 3, none⟩ = some (.int .i64 n))
          (first
            | go_keep
            | (go_split_ands
               refine ⟨?_, ?_, ?_, ?_⟩ <;> (repeat' (first
                 | assumption
                 | refine (hb4.cell (by have h1 := h23.size; have h2 := HB12.out.size; have h3 := HSZ.out; simp at h1 h2 ⊢; omega)).trans ?_
                 | refine (h23.cell (by have h2 := HB12.out.size; have h3 := HSZ.out; simp; omega)).trans ?_)))
            | (trace_state; fail))
          (first
          | (go_at_call 109; refine (CP.out _ ((HB.out.trans (HB12.out.mono HB.out.size)).trans (((Below.refl _ w2).drew).mono (HB.out.trans (HB12.out.mono HB.out.size)).size))).mono ?_; rintro e w3 ⟨rfl, hb3⟩; have h23 : Below w2.heap.size w2 w3 := ((Below.refl _ w2).drew).trans hb3; have h03 : Below w.heap.size w w3 := (HB.out.trans (HB12.out.mono HB.out.size)).trans (h23.mono (HB.out.trans (HB12.out.mono HB.out.size)).size))
          | (go_at_call 110; refine (CV.out _ h03).mono ?_; rintro e w4 ⟨rfl, hb4⟩; have h04 := h03.trans (hb4.mono h03.size))))
      all_goals go_wp2
      all_goals refine bodyPost_ret (results_tmp2 rfl _ _ _) rfl ?_
      all_goals exact ⟨rfl, h04⟩
end Go.Proofs.YtklfojmflmablaaGreatDoor
