/- Package slices: Values at base types and at types; package arena: each. -/
import Derived.Test.YtklfojmflmablaaGreatDoorEa
namespace Go.Proofs.YtklfojmflmablaaGreatDoor
open Go Go.RowKit Go.Shelf
attribute [local go_sem] Oper.semAt_some

set_option maxRecDepth 100000 in
set_option maxHeartbeats 1000000 in
/-- slices.Values at Bs: what it hands back. -/
theorem valuesBs_iters (v : Value) (l : List (Bs)) (B n₁ : Nat) (w : World) (hn : n₁ ≤ w.heap.size) (hB : B < n₁) (hb : Boxed w B 62 v) (hv : RowIn bsCells 2 w n₁ v l) (hlen : l.length ≤ 140737488355328) :
    Iters Tryz.prog 167 (fun y => #[y, .pointer (some ⟨B, 0, none⟩)]) (fun x => #[bsV x]) l (fun k => k < n₁) w := by
  intro y J Jx R W hE hle hown hdis hlt hJ
  obtain ⟨A, c, rfl, hA⟩ := hv
  have cb := (show Boxed W B 62 _ from (hown B hB).trans hb).cell
  have HA : Hid (∀ i x, l[i]? = some x → ∃ b off, A = some ⟨b, off, none⟩ ∧ b < n₁ ∧ ∀ j u, (bsCells x)[j]? = some u → W.cell? ⟨b, off + i * 2 + j, none⟩ = some u) := Lib.hid fun i x hx => by
    obtain ⟨b, off, e, hbn, hc⟩ := hA i x hx
    exact ⟨b, off, e, hbn, fun j u hu => (World.cell?_of_block (hown b hbn)).trans (hc j u hu)⟩

  have HE := Lib.hid hE
  have hf := hE.form
  have HJ := Lib.hid hJ
  have HL := Lib.hid hlt
  have HD := Lib.hid hdis
  have HN := Lib.hid (Nat.le_trans hn hle)
  clear hE hJ hlt hdis hA hb hown hn hle
  refine (callsIn_wide (n := 3)).1 ?_
  rcases hf with ⟨kf, cp, rfl, ek⟩ | ⟨ly, rfl⟩
  · refine callsIn_of_wp Tryz.func167 rfl trivial ?_ rfl
    simp only [Tryz.ntmps167, List.size_toArray, List.length_cons, List.length_nil, Nat.reduceAdd, Nat.reduceSub, Array.replicate_succ, Array.replicate_zero, List.push_toArray, List.append_toArray, List.nil_append, List.cons_append]
    gi_wp2
    gi_loopw [7] (fun i wr => ∃ (k : Nat) (R' : Sets), i = .int .i64 k ∧ k ≤ l.length ∧ Hid (J (l.take k) R' wr) ∧ Hid (Foot R W R' wr)) (fun i _ => l.length - (intOf i).toNat)
    case atStart => exact ⟨0, R, rfl, Nat.zero_le _, HJ, Lib.hid (Foot.refl HL.out)⟩
    case round =>
      obtain ⟨k, R', rfl, hk, hJs, hF⟩ := hrel
      by_cases hlt : k < l.length
      · obtain ⟨x, hx⟩ : ∃ x, l[k]? = some x := ⟨_, List.getElem?_eq_getElem hlt⟩
        obtain ⟨b, off, rfl, hbn, hc⟩ := HA.out k x hx
        have hlow : wr.heap[b]? = W.heap[b]? := hF.out.only.block b (by have := HN.out; omega) (fun h => HD.out _ h (by have := HN.out; omega))
        have hc' : ∀ j u, (bsCells x)[j]? = some u → wr.cell? ⟨b, off + k * 2 + j, none⟩ = some u := fun j u hu => (World.cell?_of_block hlow).trans (hc j u hu)
        have d0 := hc' 0 _ rfl
        have d1 := hc' 1 _ rfl
        simp only [Nat.add_zero] at d0
        have HX := Lib.hid hx
        clear hc hc' hlow hx
        obtain ⟨W2, hW2⟩ : ∃ W2, wr.alloc (.cells #[.bool x.cell, .int .i64 x.n] 24) = W2 := ⟨_, rfl⟩
        have o2 : Only (fun _ => False) wr W2 := by rw [← hW2]; exact (Only.refl _ _).alloc _
        have b2 : W2.heap[wr.heap.size]? = some (.cells #[.bool x.cell, .int .i64 x.n] 24 (0, 0)) := by rw [← hW2]; exact World.alloc_heap_new wr _
        have e0 := cell_of_row W2 _ 0 _ 24 (0, 0) b2
        have e1 := cell_of_row W2 _ 1 _ 24 (0, 0) b2
        have HO2 := Lib.hid o2
        have CY := Lib.hid (HE.out.next (x := x) (pre := l.take k) (by rw [← take_snoc HX.out]; exact take_pre l _) (Nat.le_refl _) hF.out hJs.out W2 (HO2.out.mono fun _ _ f => f.elim))
        rw [← take_snoc HX.out] at CY
        unfold bsV at CY
        clear o2 b2
        gi_wp2_with (refine ⟨trivial, ?_⟩; gi_at_fn kf; refine (callsIn_wide.2 CY.out.fn).mono ?_; rintro e w3 ⟨R2, hf2, (⟨rfl, hJ2⟩ | ⟨rfl, hJ2⟩)⟩)
        · go_roundw
          case rel => exact ⟨k + 1, R2, rfl, by omega, Lib.hid hJ2, Lib.hid (hF.out.trans (Foot.after HO2.out hf2))⟩
          case measure => simp [intOf]; omega
        · refine bodyPost_ret (results_none rfl _ _ _) rfl ?_
          exact ⟨⟨_, rfl⟩, R2, hF.out.trans (Foot.after HO2.out hf2), .inr ⟨_, take_pre l _, hJ2⟩⟩
      · gi_wp2
        go_end0
        refine ⟨⟨_, rfl⟩, R', hF.out, .inl ?_⟩
        have e : l.take k = l := List.take_of_length_le (by omega)
        have := hJs.out
        rw [e] at this
        exact this
  · refine callsIn_of_wp Tryz.func167 rfl trivial ?_ rfl
    simp only [Tryz.ntmps167, List.size_toArray, List.length_cons, List.length_nil, Nat.reduceAdd, Nat.reduceSub, Array.replicate_succ, Array.replicate_zero, List.push_toArray, List.append_toArray, List.nil_append, List.cons_append]
    gi_wp2
    gi_loopw [7] (fun i wr => ∃ (k : Nat) (R' : Sets), i = .int .i64 k ∧ k ≤ l.length ∧ Hid (J (l.take k) R' wr) ∧ Hid (Foot R W R' wr)) (fun i _ => l.length - (intOf i).toNat)
    case atStart => exact ⟨0, R, rfl, Nat.zero_le _, HJ, Lib.hid (Foot.refl HL.out)⟩
    case round =>
      obtain ⟨k, R', rfl, hk, hJs, hF⟩ := hrel
      by_cases hlt : k < l.length
      · obtain ⟨x, hx⟩ : ∃ x, l[k]? = some x := ⟨_, List.getElem?_eq_getElem hlt⟩
        obtain ⟨b, off, rfl, hbn, hc⟩ := HA.out k x hx
        have hlow : wr.heap[b]? = W.heap[b]? := hF.out.only.block b (by have := HN.out; omega) (fun h => HD.out _ h (by have := HN.out; omega))
        have hc' : ∀ j u, (bsCells x)[j]? = some u → wr.cell? ⟨b, off + k * 2 + j, none⟩ = some u := fun j u hu => (World.cell?_of_block hlow).trans (hc j u hu)
        have d0 := hc' 0 _ rfl
        have d1 := hc' 1 _ rfl
        simp only [Nat.add_zero] at d0
        have HX := Lib.hid hx
        clear hc hc' hlow hx
        obtain ⟨W2, hW2⟩ : ∃ W2, wr.alloc (.cells #[.bool x.cell, .int .i64 x.n] 24) = W2 := ⟨_, rfl⟩
        have o2 : Only (fun _ => False) wr W2 := by rw [← hW2]; exact (Only.refl _ _).alloc _
        have b2 : W2.heap[wr.heap.size]? = some (.cells #[.bool x.cell, .int .i64 x.n] 24 (0, 0)) := by rw [← hW2]; exact World.alloc_heap_new wr _
        have e0 := cell_of_row W2 _ 0 _ 24 (0, 0) b2
        have e1 := cell_of_row W2 _ 1 _ 24 (0, 0) b2
        have HO2 := Lib.hid o2
        have CY := Lib.hid (HE.out.next (x := x) (pre := l.take k) (by rw [← take_snoc HX.out]; exact take_pre l _) (Nat.le_refl _) hF.out hJs.out W2 (HO2.out.mono fun _ _ f => f.elim))
        rw [← take_snoc HX.out] at CY
        unfold bsV at CY
        clear o2 b2
        obtain ⟨fn, tmps, assign, body, hy, hR⟩ := CY.out.yield 2
        gi_wp2_with (refine hR.mono ?_; rintro e w3 ⟨R2, hf2, (⟨rfl, hJ2⟩ | ⟨rfl, hJ2⟩)⟩)
        · go_roundw
          case rel => exact ⟨k + 1, R2, rfl, by omega, Lib.hid hJ2, Lib.hid (hF.out.trans (Foot.after HO2.out hf2))⟩
          case measure => simp [intOf]; omega
        · refine bodyPost_ret (results_none rfl _ _ _) rfl ?_
          exact ⟨⟨_, rfl⟩, R2, hF.out.trans (Foot.after HO2.out hf2), .inr ⟨_, take_pre l _, hJ2⟩⟩
      · gi_wp2
        go_end0
        refine ⟨⟨_, rfl⟩, R', hF.out, .inl ?_⟩
        have e : l.take k = l := List.take_of_length_le (by omega)
        have := hJs.out
        rw [e] at this
        exact this

set_option maxRecDepth 100000 in
set_option maxHeartbeats 1000000 in
/-- slices.Values at Ty: what it hands back. -/
theorem valuesTy_iters (v : Value) (l : List (Value × Ty)) (B n₁ : Nat) (w : World) (hn : n₁ ≤ w.heap.size) (hB : B < n₁) (hb : Boxed w B 22 v) (hv : RowIn tyCells 3 w n₁ v l) (hlen : l.length ≤ 140737488355328) (hsl : ∀ z ∈ l, ∃ A n c, z.1 = .slice A n c) :
    Iters Tryz.prog 197 (fun y => #[y, .pointer (some ⟨B, 0, none⟩)]) (fun x => #[tyPV x]) l (fun k => k < n₁) w := by
  intro y J Jx R W hE hle hown hdis hlt hJ
  obtain ⟨A, c, rfl, hA⟩ := hv
  have cb := (show Boxed W B 22 _ from (hown B hB).trans hb).cell
  have HA : Hid (∀ i x, l[i]? = some x → ∃ b off, A = some ⟨b, off, none⟩ ∧ b < n₁ ∧ ∀ j u, (tyCells x)[j]? = some u → W.cell? ⟨b, off + i * 3 + j, none⟩ = some u) := Lib.hid fun i x hx => by
    obtain ⟨b, off, e, hbn, hc⟩ := hA i x hx
    exact ⟨b, off, e, hbn, fun j u hu => (World.cell?_of_block (hown b hbn)).trans (hc j u hu)⟩
  have HSL := Lib.hid hsl
  have HE := Lib.hid hE
  have hf := hE.form
  have HJ := Lib.hid hJ
  have HL := Lib.hid hlt
  have HD := Lib.hid hdis
  have HN := Lib.hid (Nat.le_trans hn hle)
  clear hsl hE hJ hlt hdis hA hb hown hn hle
  refine (callsIn_wide (n := 3)).1 ?_
  rcases hf with ⟨kf, cp, rfl, ek⟩ | ⟨ly, rfl⟩
  · refine callsIn_of_wp Tryz.func197 rfl trivial ?_ rfl
    simp only [Tryz.ntmps197, List.size_toArray, List.length_cons, List.length_nil, Nat.reduceAdd, Nat.reduceSub, Array.replicate_succ, Array.replicate_zero, List.push_toArray, List.append_toArray, List.nil_append, List.cons_append]
    gi_wp2
    gi_loopw [7] (fun i wr => ∃ (k : Nat) (R' : Sets), i = .int .i64 k ∧ k ≤ l.length ∧ Hid (J (l.take k) R' wr) ∧ Hid (Foot R W R' wr)) (fun i _ => l.length - (intOf i).toNat)
    case atStart => exact ⟨0, R, rfl, Nat.zero_le _, HJ, Lib.hid (Foot.refl HL.out)⟩
    case round =>
      obtain ⟨k, R', rfl, hk, hJs, hF⟩ := hrel
      by_cases hlt : k < l.length
      · obtain ⟨⟨pv, t⟩, hx⟩ : ∃ x, l[k]? = some x := ⟨_, List.getElem?_eq_getElem hlt⟩
        obtain ⟨A2, n2, c2, rfl⟩ := HSL.out _ (List.mem_of_getElem? hx)
        obtain ⟨b, off, rfl, hbn, hc⟩ := HA.out k (.slice A2 n2 c2, t) hx
        have hlow : wr.heap[b]? = W.heap[b]? := hF.out.only.block b (by have := HN.out; omega) (fun h => HD.out _ h (by have := HN.out; omega))
        have hc' : ∀ j u, (tyCells (.slice A2 n2 c2, t))[j]? = some u → wr.cell? ⟨b, off + k * 3 + j, none⟩ = some u := fun j u hu => (World.cell?_of_block hlow).trans (hc j u hu)
        have d0 := hc' 0 _ rfl
        have d1 := hc' 1 _ rfl
        have d2 := hc' 2 _ rfl
        simp only [Nat.add_zero] at d0
        have HX := Lib.hid hx
        clear hc hc' hlow hx
        obtain ⟨W2, hW2⟩ : ∃ W2, wr.alloc (.cells #[.slice A2 n2 c2, .bool t.result.cell, .int .i64 t.result.n] 64) = W2 := ⟨_, rfl⟩
        have o2 : Only (fun _ => False) wr W2 := by rw [← hW2]; exact (Only.refl _ _).alloc _
        have b2 : W2.heap[wr.heap.size]? = some (.cells #[.slice A2 n2 c2, .bool t.result.cell, .int .i64 t.result.n] 64 (0, 0)) := by rw [← hW2]; exact World.alloc_heap_new wr _
        have e0 := cell_of_row W2 _ 0 _ 64 (0, 0) b2
        have e1 := cell_of_row W2 _ 1 _ 64 (0, 0) b2
        have e2 := cell_of_row W2 _ 2 _ 64 (0, 0) b2
        have HO2 := Lib.hid o2
        have CY := Lib.hid (HE.out.next (x := (.slice A2 n2 c2, t)) (pre := l.take k) (by rw [← take_snoc HX.out]; exact take_pre l _) (Nat.le_refl _) hF.out hJs.out W2 (HO2.out.mono fun _ _ f => f.elim))
        rw [← take_snoc HX.out] at CY
        unfold tyPV at CY
        unfold tyV at CY
        dsimp only at CY
        clear o2 b2
        gi_wp2_with (refine ⟨trivial, ?_⟩; gi_at_fn kf; refine (callsIn_wide.2 CY.out.fn).mono ?_; rintro e w3 ⟨R2, hf2, (⟨rfl, hJ2⟩ | ⟨rfl, hJ2⟩)⟩)
        · go_roundw
          case rel => exact ⟨k + 1, R2, rfl, by omega, Lib.hid hJ2, Lib.hid (hF.out.trans (Foot.after HO2.out hf2))⟩
          case measure => simp [intOf]; omega
        · refine bodyPost_ret (results_none rfl _ _ _) rfl ?_
          exact ⟨⟨_, rfl⟩, R2, hF.out.trans (Foot.after HO2.out hf2), .inr ⟨_, take_pre l _, hJ2⟩⟩
      · gi_wp2
        go_end0
        refine ⟨⟨_, rfl⟩, R', hF.out, .inl ?_⟩
        have e : l.take k = l := List.take_of_length_le (by omega)
        have := hJs.out
        rw [e] at this
        exact this
  · refine callsIn_of_wp Tryz.func197 rfl trivial ?_ rfl
    simp only [Tryz.ntmps197, List.size_toArray, List.length_cons, List.length_nil, Nat.reduceAdd, Nat.reduceSub, Array.replicate_succ, Array.replicate_zero, List.push_toArray, List.append_toArray, List.nil_append, List.cons_append]
    gi_wp2
    gi_loopw [7] (fun i wr => ∃ (k : Nat) (R' : Sets), i = .int .i64 k ∧ k ≤ l.length ∧ Hid (J (l.take k) R' wr) ∧ Hid (Foot R W R' wr)) (fun i _ => l.length - (intOf i).toNat)
    case atStart => exact ⟨0, R, rfl, Nat.zero_le _, HJ, Lib.hid (Foot.refl HL.out)⟩
    case round =>
      obtain ⟨k, R', rfl, hk, hJs, hF⟩ := hrel
      by_cases hlt : k < l.length
      · obtain ⟨⟨pv, t⟩, hx⟩ : ∃ x, l[k]? = some x := ⟨_, List.getElem?_eq_getElem hlt⟩
        obtain ⟨A2, n2, c2, rfl⟩ := HSL.out _ (List.mem_of_getElem? hx)
        obtain ⟨b, off, rfl, hbn, hc⟩ := HA.out k (.slice A2 n2 c2, t) hx
        have hlow : wr.heap[b]? = W.heap[b]? := hF.out.only.block b (by have := HN.out; omega) (fun h => HD.out _ h (by have := HN.out; omega))
        have hc' : ∀ j u, (tyCells (.slice A2 n2 c2, t))[j]? = some u → wr.cell? ⟨b, off + k * 3 + j, none⟩ = some u := fun j u hu => (World.cell?_of_block hlow).trans (hc j u hu)
        have d0 := hc' 0 _ rfl
        have d1 := hc' 1 _ rfl
        have d2 := hc' 2 _ rfl
        simp only [Nat.add_zero] at d0
        have HX := Lib.hid hx
        clear hc hc' hlow hx
        obtain ⟨W2, hW2⟩ : ∃ W2, wr.alloc (.cells #[.slice A2 n2 c2, .bool t.result.cell, .int .i64 t.result.n] 64) = W2 := ⟨_, rfl⟩
        have o2 : Only (fun _ => False) wr W2 := by rw [← hW2]; exact (Only.refl _ _).alloc _
        have b2 : W2.heap[wr.heap.size]? = some (.cells #[.slice A2 n2 c2, .bool t.result.cell, .int .i64 t.result.n] 64 (0, 0)) := by rw [← hW2]; exact World.alloc_heap_new wr _
        have e0 := cell_of_row W2 _ 0 _ 64 (0, 0) b2
        have e1 := cell_of_row W2 _ 1 _ 64 (0, 0) b2
        have e2 := cell_of_row W2 _ 2 _ 64 (0, 0) b2
        have HO2 := Lib.hid o2
        have CY := Lib.hid (HE.out.next (x := (.slice A2 n2 c2, t)) (pre := l.take k) (by rw [← take_snoc HX.out]; exact take_pre l _) (Nat.le_refl _) hF.out hJs.out W2 (HO2.out.mono fun _ _ f => f.elim))
        rw [← take_snoc HX.out] at CY
        unfold tyPV at CY
        unfold tyV at CY
        dsimp only at CY
        clear o2 b2
        obtain ⟨fn, tmps, assign, body, hy, hR⟩ := CY.out.yield 2
        gi_wp2_with (refine hR.mono ?_; rintro e w3 ⟨R2, hf2, (⟨rfl, hJ2⟩ | ⟨rfl, hJ2⟩)⟩)
        · go_roundw
          case rel => exact ⟨k + 1, R2, rfl, by omega, Lib.hid hJ2, Lib.hid (hF.out.trans (Foot.after HO2.out hf2))⟩
          case measure => simp [intOf]; omega
        · refine bodyPost_ret (results_none rfl _ _ _) rfl ?_
          exact ⟨⟨_, rfl⟩, R2, hF.out.trans (Foot.after HO2.out hf2), .inr ⟨_, take_pre l _, hJ2⟩⟩
      · gi_wp2
        go_end0
        refine ⟨⟨_, rfl⟩, R', hF.out, .inl ?_⟩
        have e : l.take k = l := List.take_of_length_le (by omega)
        have := hJs.out
        rw [e] at this
        exact this

end Go.Proofs.YtklfojmflmablaaGreatDoor
