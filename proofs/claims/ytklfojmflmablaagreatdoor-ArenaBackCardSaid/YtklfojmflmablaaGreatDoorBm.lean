/- ArenaBack: the text of a move is that move's, the text of an arena that arena's; without its last byte it is another one's, or nobody's. -/
import Derived.Test.YtklfojmflmablaaGreatDoorRdb
/- The reference: whether two types, two arenas are the same, whatever they are. -/
namespace Go.Proofs.YtklfojmflmablaaGreatDoor
open Go Go.RowKit Go.Shelf

theorem take_same {α : Type} {l l' : List α} {j : Nat} {y y' : α} (h : l.take j = l'.take j) (hy : l[j]? = some y) (hy' : l'[j]? = some y') (e : y = y') : l.take (j + 1) = l'.take (j + 1) := by
  rw [List.take_add_one, List.take_add_one, h, hy, hy', e]

set_option maxRecDepth 100000 in
set_option maxHeartbeats 2000000 in
theorem sameType2_any (pv pv' : Value) (x x' : Ty) (w : World) (hl : x.params.length ≤ 1000) (hl' : x'.params.length ≤ 1000) (hv : BsIn w w.heap.size pv x.params) (hv' : BsIn w w.heap.size pv' x'.params) :
    Calls Tryz.prog 81 #[tyV pv x.result, tyV pv' x'.result] w fun e w' => e = .returned (.bool (decide (x = x'))) ∧ Below w.heap.size w w' := by
  obtain ⟨A, c, rfl, hA⟩ := hv
  obtain ⟨A', c', rfl, hA'⟩ := hv'
  obtain ⟨l, r⟩ := x
  obtain ⟨l', r'⟩ := x'
  dsimp only at hA hA' hl hl' ⊢
  have HA := Lib.hid hA
  have HA' := Lib.hid hA'
  have g24 := guard24
  have hE := fun W => neq24 W r r'
  obtain ⟨n, hn⟩ : ∃ n, l.length = n := ⟨_, rfl⟩
  obtain ⟨n', hn'⟩ : ∃ n, l'.length = n := ⟨_, rfl⟩
  have HN := Lib.hid hn
  have HN' := Lib.hid hn'
  rw [hn] at hl ⊢
  rw [hn'] at hl' ⊢
  obtain ⟨w1, hw1⟩ : ∃ w1, (w.alloc (.cells #[.slice A n c, .bool r.cell, .int .i64 r.n] 64)).alloc (.cells #[.slice A' n' c', .bool r'.cell, .int .i64 r'.n] 64) = w1 := ⟨_, rfl⟩
  have hb : Below w.heap.size w w1 := by rw [← hw1]; exact ((Below.refl _ w).alloc (Nat.le_refl _) _).alloc (by simp) _
  have x0 : w1.heap[w.heap.size]? = some (.cells #[.slice A n c, .bool r.cell, .int .i64 r.n] 64 (0, 0)) := by rw [← hw1]; exact (Below.heap_alloc _ _ _ (by simp)).trans (World.alloc_heap_new w _)
  have x1 : w1.heap[w.heap.size + 1]? = some (.cells #[.slice A' n' c', .bool r'.cell, .int .i64 r'.n] 64 (0, 0)) := by
    rw [← hw1]; have := World.alloc_heap_new (w.alloc (.cells #[.slice A n c, .bool r.cell, .int .i64 r.n] 64)) (.cells #[.slice A' n' c', .bool r'.cell, .int .i64 r'.n] 64); rwa [World.size_alloc] at this
  have HB := Lib.hid hb
  have HX0 := Lib.hid x0
  have HX1 := Lib.hid x1
  have c0 := cell_of_row w1 _ 0 _ 64 (0, 0) x0
  have c1 := cell_of_row w1 _ 1 _ 64 (0, 0) x0
  have c2 := cell_of_row w1 _ 2 _ 64 (0, 0) x0
  have d0 := cell_of_row w1 _ 0 _ 64 (0, 0) x1
  have d1 := cell_of_row w1 _ 1 _ 64 (0, 0) x1
  have d2 := cell_of_row w1 _ 2 _ 64 (0, 0) x1
  unfold tyV
  clear hA hA' hb x0 x1 hn hn'
  by_cases hnn : n = n'
  · subst hnn
    by_cases hr : r = r'
    · subst hr
      have hE1 : ∀ W, (binOp .neq 24 (.agg #[.bool r.cell, .int .i64 r.n]) (.agg #[.bool r.cell, .int .i64 r.n])).run Tryz.prog W = .ok (.bool false) W := fun W => same24 r W
      clear hE
      have hin : ((n : Int) == (n : Int)) = true := beq_self_eq_true _
      have HD : Hid (decide ((⟨l, r⟩ : Ty) = ⟨l', r⟩) = decide (l = l')) := Lib.hid (by simp)
      rw [HD.out]
      go_enter Tryz.func81, Tryz.ntmps81
      go_wp2
      go_loopw [5] (fun i wr => ∃ j : Nat, i = .int .i64 j ∧ j ≤ n ∧ Hid (l.take j = l'.take j) ∧ Hid (Below w1.heap.size w1 wr)) (fun i _ => n - (intOf i).toNat)
      case atStart => exact ⟨0, rfl, Nat.zero_le _, Lib.hid rfl, Lib.hid (Below.refl _ _)⟩
      case round =>
        obtain ⟨j, rfl, hj, hT, hB⟩ := hrel
        have y0 := (hB.out.block _ (Array.getElem?_eq_some_iff.1 HX0.out).1).trans HX0.out
        have y1 := (hB.out.block _ (Array.getElem?_eq_some_iff.1 HX1.out).1).trans HX1.out
        have c0 := cell_of_row wr _ 0 _ 64 (0, 0) y0
        have d0 := cell_of_row wr _ 0 _ 64 (0, 0) y1
        clear y0 y1
        by_cases hlt : j < n
        · obtain ⟨y, hy⟩ : ∃ y, l[j]? = some y := ⟨_, List.getElem?_eq_getElem (by rw [HN.out]; exact hlt)⟩
          obtain ⟨y', hy'⟩ : ∃ y, l'[j]? = some y := ⟨_, List.getElem?_eq_getElem (by rw [HN'.out]; exact hlt)⟩
          obtain ⟨b, off, rfl, hbn, e0, e1⟩ := HA.out j y hy
          obtain ⟨b', off', rfl, hbn', f0, f1⟩ := HA'.out j y' hy'
          have HW : Hid (∀ b, b < w.heap.size → wr.heap[b]? = w.heap[b]?) := Lib.hid (HB.out.trans (hB.out.mono HB.out.size)).block
          replace e0 := (World.cell?_of_block (HW.out b hbn)).trans e0
          replace e1 := (World.cell?_of_block (HW.out b hbn)).trans e1
          replace f0 := (World.cell?_of_block (HW.out b' hbn')).trans f0
          replace f1 := (World.cell?_of_block (HW.out b' hbn')).trans f1
          by_cases hyy : y = y'
          · have HM := Lib.hid (take_same hT.out hy hy' hyy)
            subst hyy
            have hF : ∀ W, (binOp .neq 24 (.agg #[.bool y.cell, .int .i64 y.n]) (.agg #[.bool y.cell, .int .i64 y.n])).run Tryz.prog W = .ok (.bool false) W := fun W => same24 y W
            clear hy hy'
            go_wp2_with fail
            go_quiet (fail)
            go_wp2
            refine ⟨⟨j + 1, by simp, by omega, HM, Lib.hid (below_drN hB.out _)⟩, by simp [intOf]; omega⟩
          · have HNE : Hid (¬ l = l') := Lib.hid (fun e => hyy (by rw [e, hy'] at hy; exact (Option.some.inj hy).symm))
            have hF : ∀ W, (binOp .neq 24 (.agg #[.bool y.cell, .int .i64 y.n]) (.agg #[.bool y'.cell, .int .i64 y'.n])).run Tryz.prog W = .ok (.bool true) W := fun W => by rw [neq24, decide_eq_false hyy]; rfl
            clear hy hy' hyy
            go_wp2_with fail
            go_quiet (fail)
            go_wp2
            go_ret
            refine ⟨by rw [decide_eq_false HNE.out]; rfl, ?_⟩
            have := below_drN hB.out 0
            exact HB.out.trans ((below_drN hB.out _).mono HB.out.size)
        · have HEQ : Hid (l = l') := Lib.hid (by
            have h := hT.out
            rw [List.take_of_length_le (by rw [HN.out]; omega), List.take_of_length_le (by rw [HN'.out]; omega)] at h
            exact h)
          go_wp2
          go_ret
          exact ⟨by rw [decide_eq_true HEQ.out]; rfl, HB.out.trans (hB.out.mono HB.out.size)⟩
    · have hE1 : ∀ W, (binOp .neq 24 (.agg #[.bool r.cell, .int .i64 r.n]) (.agg #[.bool r'.cell, .int .i64 r'.n])).run Tryz.prog W = .ok (.bool true) W := fun W => by rw [hE, decide_eq_false hr]; rfl
      have HD : Hid (decide ((⟨l, r⟩ : Ty) = ⟨l', r'⟩) = false) := Lib.hid (by rw [decide_eq_false]; intro e; injection e with _ e2; exact hr e2)
      rw [HD.out]
      clear hE hr
      go_enter Tryz.func81, Tryz.ntmps81
      go_wp2
      go_ret
      exact ⟨rfl, HB.out⟩
  · have hin : ((n : Int) == (n' : Int)) = false := by rw [beq_eq_false_iff_ne]; omega
    have hin2 : ¬ (n : Int) = (n' : Int) := by omega
    have HD : Hid (decide ((⟨l, r⟩ : Ty) = ⟨l', r'⟩) = false) := Lib.hid (by rw [decide_eq_false]; intro e; injection e with e1 _; rw [e1, HN'.out] at HN; exact hnn HN.out.symm)
    rw [HD.out]
    clear hE
    go_enter Tryz.func81, Tryz.ntmps81
    go_wp2
    go_ret
    exact ⟨rfl, HB.out⟩

set_option maxRecDepth 100000 in
set_option maxHeartbeats 2000000 in
theorem same2_any (v v' : Value) (a a' : Ar) (w : World) (hl : a.ids.length ≤ 1000) (hl' : a'.ids.length ≤ 1000) (hpl : ∀ t ∈ a.ids, t.params.length ≤ 1000) (hpl' : ∀ t ∈ a'.ids, t.params.length ≤ 1000) (hv : TyIn w w.heap.size v a.ids) (hv' : TyIn w w.heap.size v' a'.ids) :
    Calls Tryz.prog 27 #[arV v a.root a.jumps, arV v' a'.root a'.jumps] w fun e w' => e = .returned (.bool (decide (a = a'))) ∧ Below w.heap.size w w' := by
  obtain ⟨A, c, rfl, hA⟩ := hv
  obtain ⟨A', c', rfl, hA'⟩ := hv'
  obtain ⟨l, r, ju⟩ := a
  obtain ⟨l', r', ju'⟩ := a'
  dsimp only at hA hA' hl hl' hpl hpl' ⊢
  have HA := Lib.hid hA
  have HA' := Lib.hid hA'
  have HPL := Lib.hid hpl
  have HPL' := Lib.hid hpl'
  have g24 := guard24
  have hE := fun W => neq24 W r r'
  obtain ⟨n, hn⟩ : ∃ n, l.length = n := ⟨_, rfl⟩
  obtain ⟨n', hn'⟩ : ∃ n, l'.length = n := ⟨_, rfl⟩
  have HN := Lib.hid hn
  have HN' := Lib.hid hn'
  rw [hn] at hl ⊢
  rw [hn'] at hl' ⊢
  obtain ⟨w1, hw1⟩ : ∃ w1, (w.alloc (.cells #[.slice A n c, .bool r.cell, .int .i64 r.n, .bool ju] 26)).alloc (.cells #[.slice A' n' c', .bool r'.cell, .int .i64 r'.n, .bool ju'] 26) = w1 := ⟨_, rfl⟩
  have hb : Below w.heap.size w w1 := by rw [← hw1]; exact ((Below.refl _ w).alloc (Nat.le_refl _) _).alloc (by simp) _
  have x0 : w1.heap[w.heap.size]? = some (.cells #[.slice A n c, .bool r.cell, .int .i64 r.n, .bool ju] 26 (0, 0)) := by rw [← hw1]; exact (Below.heap_alloc _ _ _ (by simp)).trans (World.alloc_heap_new w _)
  have x1 : w1.heap[w.heap.size + 1]? = some (.cells #[.slice A' n' c', .bool r'.cell, .int .i64 r'.n, .bool ju'] 26 (0, 0)) := by
    rw [← hw1]; have := World.alloc_heap_new (w.alloc (.cells #[.slice A n c, .bool r.cell, .int .i64 r.n, .bool ju] 26)) (.cells #[.slice A' n' c', .bool r'.cell, .int .i64 r'.n, .bool ju'] 26); rwa [World.size_alloc] at this
  have HB := Lib.hid hb
  have HX0 := Lib.hid x0
  have HX1 := Lib.hid x1
  have c0 := cell_of_row w1 _ 0 _ 26 (0, 0) x0
  have c1 := cell_of_row w1 _ 1 _ 26 (0, 0) x0
  have c2 := cell_of_row w1 _ 2 _ 26 (0, 0) x0
  have c3 := cell_of_row w1 _ 3 _ 26 (0, 0) x0
  have d0 := cell_of_row w1 _ 0 _ 26 (0, 0) x1
  have d1 := cell_of_row w1 _ 1 _ 26 (0, 0) x1
  have d2 := cell_of_row w1 _ 2 _ 26 (0, 0) x1
  have d3 := cell_of_row w1 _ 3 _ 26 (0, 0) x1
  unfold arV
  clear hA hA' hb x0 x1 hn hn' hpl hpl'
  by_cases hnn : n = n'
  · subst hnn
    have hin : ((n : Int) == (n : Int)) = true := beq_self_eq_true _
    by_cases hr : r = r'
    · subst hr
      have hE1 : ∀ W, (binOp .neq 24 (.agg #[.bool r.cell, .int .i64 r.n]) (.agg #[.bool r.cell, .int .i64 r.n])).run Tryz.prog W = .ok (.bool false) W := fun W => same24 r W
      clear hE
      by_cases hju : ju = ju'
      · subst hju
        have hjj : (ju == ju) = true := beq_self_eq_true _
        have HD : Hid (decide ((⟨l, r, ju⟩ : Ar) = ⟨l', r, ju⟩) = decide (l = l')) := Lib.hid (by simp)
        rw [HD.out]
        go_enter Tryz.func27, Tryz.ntmps27
        go_wp2
        go_loopw [5] (fun i wr => ∃ j : Nat, i = .int .i64 j ∧ j ≤ n ∧ Hid (l.take j = l'.take j) ∧ Hid (Below w1.heap.size w1 wr)) (fun i _ => n - (intOf i).toNat)
        case atStart => exact ⟨0, rfl, Nat.zero_le _, Lib.hid rfl, Lib.hid (Below.refl _ _)⟩
        case round =>
          obtain ⟨j, rfl, hj, hT, hB⟩ := hrel
          have y0 := (hB.out.block _ (Array.getElem?_eq_some_iff.1 HX0.out).1).trans HX0.out
          have y1 := (hB.out.block _ (Array.getElem?_eq_some_iff.1 HX1.out).1).trans HX1.out
          have c0 := cell_of_row wr _ 0 _ 26 (0, 0) y0
          have d0 := cell_of_row wr _ 0 _ 26 (0, 0) y1
          clear y0 y1
          by_cases hlt : j < n
          · obtain ⟨y, hy⟩ : ∃ y, l[j]? = some y := ⟨_, List.getElem?_eq_getElem (by rw [HN.out]; exact hlt)⟩
            obtain ⟨y', hy'⟩ : ∃ y, l'[j]? = some y := ⟨_, List.getElem?_eq_getElem (by rw [HN'.out]; exact hlt)⟩
            obtain ⟨b, off, pv, rfl, hbn, hbs, e0, e1, e2⟩ := HA.out j y hy
            obtain ⟨b', off', pv', rfl, hbn', hbs', f0, f1, f2⟩ := HA'.out j y' hy'
            have HW : Hid (∀ b, b < w.heap.size → wr.heap[b]? = w.heap[b]?) := Lib.hid (HB.out.trans (hB.out.mono HB.out.size)).block
            replace e0 := (World.cell?_of_block (HW.out b hbn)).trans e0
            replace e1 := (World.cell?_of_block (HW.out b hbn)).trans e1
            replace e2 := (World.cell?_of_block (HW.out b hbn)).trans e2
            replace f0 := (World.cell?_of_block (HW.out b' hbn')).trans f0
            replace f1 := (World.cell?_of_block (HW.out b' hbn')).trans f1
            replace f2 := (World.cell?_of_block (HW.out b' hbn')).trans f2
            have CS : Hid (∀ W, Below wr.heap.size wr W → Calls Tryz.prog 81 #[tyV pv y.result, tyV pv' y'.result] W fun e w' => e = .returned (.bool (decide (y = y'))) ∧ Below W.heap.size W w') := Lib.hid fun W hW => by
              have h0 := HB.out.trans ((hB.out.trans (hW.mono hB.out.size)).mono HB.out.size)
              exact sameType2_any pv pv' y y' W (HPL.out y (List.mem_of_getElem? hy)) (HPL'.out y' (List.mem_of_getElem? hy')) (bsIn_later hbs h0) (bsIn_later hbs' h0)
            unfold tyV at CS
            by_cases hyy : y = y'
            · have HM := Lib.hid (take_same hT.out hy hy' hyy)
              rw [decide_eq_true hyy] at CS
              clear hy hy' hyy hbs hbs'
              go_wp2_with fail
              go_region_with (go_at_call 81; refine (CS.out _ ((Below.refl _ wr).drew)).mono ?_; rintro e w2 ⟨rfl, hb2⟩)
              all_goals go_wp2
              all_goals exact ⟨⟨j + 1, by simp, by omega, HM, Lib.hid (hB.out.trans ((((Below.refl _ wr).drew).trans hb2).mono hB.out.size))⟩, by simp [intOf]; omega⟩
            · have HNE : Hid (¬ l = l') := Lib.hid (fun e => hyy (by rw [e, hy'] at hy; exact (Option.some.inj hy).symm))
              rw [decide_eq_false hyy] at CS
              clear hy hy' hyy hbs hbs'
              go_wp2_with fail
              go_region_with (go_at_call 81; refine (CS.out _ ((Below.refl _ wr).drew)).mono ?_; rintro e w2 ⟨rfl, hb2⟩)
              all_goals go_wp2
              all_goals (
                go_ret
                exact ⟨by rw [decide_eq_false HNE.out]; rfl, HB.out.trans ((hB.out.trans ((((Below.refl _ wr).drew).trans hb2).mono hB.out.size)).mono HB.out.size)⟩)
          · have HEQ : Hid (l = l') := Lib.hid (by
              have h := hT.out
              rw [List.take_of_length_le (by rw [HN.out]; omega), List.take_of_length_le (by rw [HN'.out]; omega)] at h
              exact h)
            go_wp2
            go_ret
            exact ⟨by rw [decide_eq_true HEQ.out]; rfl, HB.out.trans (hB.out.mono HB.out.size)⟩
      · have hjj : (ju == ju') = false := by rw [beq_eq_false_iff_ne]; exact hju
        have HD : Hid (decide ((⟨l, r, ju⟩ : Ar) = ⟨l', r, ju'⟩) = false) := Lib.hid (by rw [decide_eq_false]; intro e; injection e with _ _ e2; exact hju e2)
        rw [HD.out]
        go_enter Tryz.func27, Tryz.ntmps27
        go_wp2
        all_goals (
          go_ret
          exact ⟨rfl, HB.out⟩)
    · have hE1 : ∀ W, (binOp .neq 24 (.agg #[.bool r.cell, .int .i64 r.n]) (.agg #[.bool r'.cell, .int .i64 r'.n])).run Tryz.prog W = .ok (.bool true) W := fun W => by rw [hE, decide_eq_false hr]; rfl
      have HD : Hid (decide ((⟨l, r, ju⟩ : Ar) = ⟨l', r', ju'⟩) = false) := Lib.hid (by rw [decide_eq_false]; intro e; injection e with _ e2; exact hr e2)
      rw [HD.out]
      clear hE hr
      go_enter Tryz.func27, Tryz.ntmps27
      go_wp2
      go_ret
      exact ⟨rfl, HB.out⟩
  · have hin : ((n : Int) == (n' : Int)) = false := by rw [beq_eq_false_iff_ne]; omega
    have hin2 : ¬ (n : Int) = (n' : Int) := by omega
    have HD : Hid (decide ((⟨l, r, ju⟩ : Ar) = ⟨l', r', ju'⟩) = false) := Lib.hid (by rw [decide_eq_false]; intro e; injection e with e1 _; rw [e1, HN'.out] at HN; exact hnn HN.out.symm)
    rw [HD.out]
    clear hE
    go_enter Tryz.func27, Tryz.ntmps27
    go_wp2
    go_ret
    exact ⟨rfl, HB.out⟩
end Go.Proofs.YtklfojmflmablaaGreatDoor
/- The walks. -/
namespace Go.Proofs.YtklfojmflmablaaGreatDoor
open Go Go.RowKit Go.Shelf

theorem nm_on {w W W' : World} (h : Below w.heap.size w W) (h' : Below W.heap.size W W') : Below w.heap.size w W' := h.trans (h'.mono h.size)
theorem nm_box {w W W' : World} {o : Obj} (h : Below w.heap.size w W) (e : W.alloc o = W') : Below w.heap.size w W' := nm_on h (e ▸ (Below.refl _ W).alloc (Nat.le_refl _) _)
theorem slice_head {T : ByteArray} {k : Nat} (h : T.size = k + 1) (W : World) : (Instr.slice 9 (.string T) none (some (.int .i64 (k : Int))) none).run Tryz.prog W = .ok (.string (T.extract 0 k)) W := by
  have hj : 0 ≤ (k : Int) ∧ (k : Int) ≤ (T.size : Int) := ⟨by omega, by omega⟩
  simp [Instr.slice, Instr.sliceBounds, Instr.sliceBound, asIntOf, run_underlying Tryz.underlying9, hj]
  intro hc; omega
theorem boxM_four {W : World} {B : Nat} {m : Mv} (h : BoxM W B m) : W.cell? ⟨B, 0, none⟩ = some (.int .i64 m.id) ∧ W.cell? ⟨B, 1, none⟩ = some (.int .i64 m.arg) ∧ W.cell? ⟨B, 2, none⟩ = some (.int .u8 m.kind) ∧ W.cell? ⟨B, 3, none⟩ = some (.int .i64 m.n) := ⟨h.c0, h.c1, h.c2, h.c3⟩
theorem boxM_at {W W' : World} {B : Nat} {m : Mv} (h : BoxM W B m) (hb : Below W.heap.size W W') : BoxM W' B m := (hb.block _ h.lt).trans h
theorem boxA_at {W W' : World} {B : Nat} {v : Value} {r : Bs} {j : Bool} (h : BoxA W B v r j) (hb : Below W.heap.size W W') : BoxA W' B v r j := (hb.block _ (Array.getElem?_eq_some_iff.1 h).1).trans h
theorem ne40 (w : World) (a b : Mv) : (binOp .neq 40 (mvV a) (mvV b)).run Tryz.prog w = .ok (.bool (!decide (a = b))) w := by
  have hS : Tryz.prog.underlying 40 = some (.struct (Tryz.prog.fieldsOf 40)) := by kernel_rfl
  have hp : Tryz.prog.stoodInHeld 40 = false := by kernel_rfl
  have u3 := Tryz.underlying3
  have u5 := Tryz.underlying5
  unfold mvV
  rw [run_neq_struct, show (10000 : Nat) = 9999 + 1 from rfl, run_equalIn_agg w 9999 40 _ _ hS hp]
  simp only [Program.fieldsOf, Tryz.underlying40]
  go_simp
  obtain ⟨i, g, k, n⟩ := a
  obtain ⟨i', g', k', n'⟩ := b
  simp only [Mv.mk.injEq]
  by_cases h1 : i = i' <;> by_cases h2 : g = g' <;> by_cases h3 : k = k' <;> by_cases h4 : n = n' <;> simp [h1, h2, h3, h4]
theorem parse_err (s : ByteArray) : (refParse s).2 = 0 ∨ (refParse s).2 = 4 := by
  unfold refParse
  split
  · exact .inr rfl
  · split
    · exact .inl rfl
    · exact .inr rfl
theorem parse_text {s : ByteArray} (h : (refParse s).2 = 0) : textRes itx (refParse s).1 = (s, 0) := by
  revert h
  unfold refParse
  split
  · intro h; cases h
  · split
    · rename_i h1; intro _; exact h1
    · intro h; cases h
theorem parse_back {m : Mv} {T : ByteArray} (h : textRes itx m = (T, 0)) (b1 : m.id ≤ 9223372036854775807) (b2 : m.arg ≤ 9223372036854775807) (b3 : m.n ≤ 9223372036854775807) : refParse T = (m, 0) := by
  have hok := ok_of_text h b1 b2 b3
  have e := text_list hok
  have eT : T.data.toList = plL m ++ sgB m.kind :: vaL m := by
    have := (Prod.mk.inj (h.symm.trans e)).1
    rw [this]
  unfold refParse
  rw [eT, refRead_text hok]
  dsimp only
  rw [if_pos h]
theorem dec20 {n : Int} (h0 : 0 ≤ n) (h : n ≤ 9223372036854775807) : (Lib.decDigits n.toNat).length ≤ 20 := dec_size n.toNat 19 (by omega)
theorem text_len {m : Mv} {T : ByteArray} (h : textRes itx m = (T, 0)) (b1 : m.id ≤ 9223372036854775807) (b2 : m.arg ≤ 9223372036854775807) (b3 : m.n ≤ 9223372036854775807) : 1 ≤ T.size ∧ T.size ≤ 200 := by
  have hok := ok_of_text h b1 b2 b3
  have e := text_list hok
  have eT : T.data.toList = plL m ++ sgB m.kind :: vaL m := by
    have := (Prod.mk.inj (h.symm.trans e)).1
    rw [this]
  have hs := sz_list T
  rw [eT, List.length_append, List.length_cons] at hs
  obtain ⟨h1, h2, h3⟩ := okMv_facts hok
  have d1 := dec20 h1 b1
  have d2 := dec20 h2 b2
  have hp : (plL m).length ≤ 41 := by
    unfold plL
    split
    · omega
    · rw [List.length_append, List.length_cons]; omega
  have hv : (vaL m).length ≤ 20 := by
    unfold vaL
    split
    · simp
    · split
      · simp
      · exact dec20 (by omega) b3
  omega
theorem cut_ne {T : ByteArray} {k : Nat} (h : T.size = k + 1) : T.extract 0 k ≠ T := fun e => by
  have := congrArg ByteArray.size e
  rw [ByteArray.size_extract] at this
  omega
theorem not_empty {T : ByteArray} {k : Nat} (h : T.size = k + 1) : T.toList.isEmpty = false := by
  rw [Lib.toList_data]
  have := sz_list T
  cases hh : T.data.toList with
  | nil => rw [hh] at this; simp at this; omega
  | cons a b => rfl
theorem read_err (s : ByteArray) : (readR s).2 = 0 ∨ (readR s).2 = 4 := by
  unfold readR
  split
  · exact .inl rfl
  · exact .inr rfl
theorem read_shows {s : ByteArray} (h : (readR s).2 = 0) : (showRes (readR s).1).1 = s := by
  revert h
  unfold readR
  split
  · rename_i h1; intro _; exact h1.2
  · intro h; cases h
theorem head_len (x : List UInt8) (xs : List (List UInt8)) : x.length ≤ (Lib.join (x :: xs) [59, 32]).length := by
  unfold Lib.join
  cases xs with
  | nil => simp
  | cons y ys => simp [List.intercalate, List.intersperse]
theorem arTx_len {a : Ar} (h : checkRes a = 0) : 1 ≤ (arTx typeTx a).size ∧ (arTx typeTx a).size ≤ 700 := by
  have h1 := arTx_size h
  have hj : jmp.size ≤ 10 := by decide
  have h0 : 1 ≤ (strs (baseTx a.root) (a.ids.map typeTx)).size := by
    rw [← sz_list, strs_data, List.map_cons, base_data]
    refine Nat.le_trans ?_ (head_len _ _)
    unfold LB
    split <;> simp
  unfold arTx
  split
  · rw [ByteArray.size_append]; omega
  · omega

set_option maxRecDepth 100000 in
set_option maxHeartbeats 2000000 in
theorem law15_tn (A : Option Addr) (n c : Nat) (r : Bs) (ju : Bool) (m : Mv) (w w1 : World)
    (hw1 : (w.alloc (.cells #[.slice A n c, .bool r.cell, .int .i64 r.n, .bool ju] 26)).alloc (.cells #[.int .i64 m.id, .int .i64 m.arg, .int .u8 m.kind, .int .i64 m.n] 40) = w1) (HB : Hid (Below w.heap.size w w1))
    (K0 : Hid (∀ W, Below w1.heap.size w1 W → BoxA W w.heap.size (.slice A n c) r ju)) (K1 : Hid (∀ W, Below w1.heap.size w1 W → BoxM W (w.heap.size + 1) m)) (LW : Hid (∀ W, Below w1.heap.size w1 W → Laid W))
    (T : ByteArray) (C42 : Hid (∀ W, Below w1.heap.size w1 W → Calls Tryz.prog 42 #[.agg #[.int .i64 m.id, .int .i64 m.arg, .int .u8 m.kind, .int .i64 m.n]] W fun e w' => e = .returned (.tuple #[.string T, .int .i64 4]) ∧ Below W.heap.size W w'))
    (C17 : Hid (∀ W, Below w1.heap.size w1 W → Calls Tryz.prog 17 #[.agg #[.slice A n c, .bool r.cell, .int .i64 r.n, .bool ju]] W fun e w' => e = .returned (.bool false) ∧ Below W.heap.size W w')) :
    Calls Tryz.prog 15 #[.agg #[.slice A n c, .bool r.cell, .int .i64 r.n, .bool ju], .agg #[.int .i64 m.id, .int .i64 m.arg, .int .u8 m.kind, .int .i64 m.n]] w fun e w' => e = .returned (.bool true) ∧ Below w.heap.size w w' := by
  obtain ⟨p0, p1, p2, p3⟩ := boxM_four (K1.out _ (Below.refl _ _))
  go_enter Tryz.func15, Tryz.ntmps15
  go_wp2_with (first
    | (go_at_call 42; ((with_reducible refine (C42.out _ (Below.refl _ _)).mono ?_); skip); rintro e w2 ⟨rfl, hb2⟩; have H2 : Hid (Below w1.heap.size w1 w2) := Lib.hid hb2; obtain ⟨a0, a1, a2, a3⟩ := boxA_four (K0.out _ H2.out))
    | (go_at_call 17; ((with_reducible refine (C17.out _ H2.out).mono ?_); skip); rintro e w5 ⟨rfl, hb5⟩; have H5 : Hid (Below w1.heap.size w1 w5) := Lib.hid (nm_on H2.out hb5))
    | (go_at_call 18; ((with_reducible refine (awake_any _ (LW.out _ H5.out)).mono ?_); skip); rintro e w20 ⟨rfl, hb20⟩; have H20 : Hid (Below w1.heap.size w1 _) := Lib.hid (nm_on H5.out hb20)))
  go_ret
  exact ⟨rfl, HB.out.trans (H20.out.mono HB.out.size)⟩

set_option maxRecDepth 100000 in
set_option maxHeartbeats 2000000 in
theorem law15_tc (A : Option Addr) (n c : Nat) (r : Bs) (ju : Bool) (m : Mv) (w w1 : World)
    (hw1 : (w.alloc (.cells #[.slice A n c, .bool r.cell, .int .i64 r.n, .bool ju] 26)).alloc (.cells #[.int .i64 m.id, .int .i64 m.arg, .int .u8 m.kind, .int .i64 m.n] 40) = w1) (HB : Hid (Below w.heap.size w w1))
    (K0 : Hid (∀ W, Below w1.heap.size w1 W → BoxA W w.heap.size (.slice A n c) r ju)) (K1 : Hid (∀ W, Below w1.heap.size w1 W → BoxM W (w.heap.size + 1) m)) (LW : Hid (∀ W, Below w1.heap.size w1 W → Laid W))
    (T : ByteArray) (C42 : Hid (∀ W, Below w1.heap.size w1 W → Calls Tryz.prog 42 #[.agg #[.int .i64 m.id, .int .i64 m.arg, .int .u8 m.kind, .int .i64 m.n]] W fun e w' => e = .returned (.tuple #[.string T, .int .i64 4]) ∧ Below W.heap.size W w'))
    (C17 : Hid (∀ W, Below w1.heap.size w1 W → Calls Tryz.prog 17 #[.agg #[.slice A n c, .bool r.cell, .int .i64 r.n, .bool ju]] W fun e w' => e = .returned (.bool true) ∧ Below W.heap.size W w'))
    (ck : Int) (hck : (ck == 0) = false)
    (C25 : Hid (∀ W, Below w1.heap.size w1 W → Calls Tryz.prog 25 #[.agg #[.slice A n c, .bool r.cell, .int .i64 r.n, .bool ju]] W fun e w' => e = .returned (.int .i64 ck) ∧ Below W.heap.size W w')) :
    Calls Tryz.prog 15 #[.agg #[.slice A n c, .bool r.cell, .int .i64 r.n, .bool ju], .agg #[.int .i64 m.id, .int .i64 m.arg, .int .u8 m.kind, .int .i64 m.n]] w fun e w' => e = .returned (.bool true) ∧ Below w.heap.size w w' := by
  obtain ⟨p0, p1, p2, p3⟩ := boxM_four (K1.out _ (Below.refl _ _))
  go_enter Tryz.func15, Tryz.ntmps15
  go_wp2_with (first
    | (go_at_call 42; ((with_reducible refine (C42.out _ (Below.refl _ _)).mono ?_); skip); rintro e w2 ⟨rfl, hb2⟩; have H2 : Hid (Below w1.heap.size w1 w2) := Lib.hid hb2; obtain ⟨a0, a1, a2, a3⟩ := boxA_four (K0.out _ H2.out))
    | (go_at_call 17; ((with_reducible refine (C17.out _ H2.out).mono ?_); skip); rintro e w5 ⟨rfl, hb5⟩; have H5 : Hid (Below w1.heap.size w1 w5) := Lib.hid (nm_on H2.out hb5); obtain ⟨b0, b1, b2, b3⟩ := boxA_four (K0.out _ H5.out))
    | (go_at_call 25; ((with_reducible refine (C25.out _ H5.out).mono ?_); skip); rintro e w6 ⟨rfl, hb6⟩; have H6 : Hid (Below w1.heap.size w1 w6) := Lib.hid (nm_on H5.out hb6))
    | (go_at_call 18; ((with_reducible refine (awake_any _ (LW.out _ H6.out)).mono ?_); skip); rintro e w20 ⟨rfl, hb20⟩; have H20 : Hid (Below w1.heap.size w1 _) := Lib.hid (nm_on H6.out hb20)))
  go_ret
  exact ⟨rfl, HB.out.trans (H20.out.mono HB.out.size)⟩

set_option maxRecDepth 100000 in
set_option maxHeartbeats 2000000 in
theorem law15_tx (A : Option Addr) (n c : Nat) (r : Bs) (ju : Bool) (ids : List Ty) (m : Mv) (w w1 : World)
    (hw1 : (w.alloc (.cells #[.slice A n c, .bool r.cell, .int .i64 r.n, .bool ju] 26)).alloc (.cells #[.int .i64 m.id, .int .i64 m.arg, .int .u8 m.kind, .int .i64 m.n] 40) = w1) (HB : Hid (Below w.heap.size w w1))
    (K0 : Hid (∀ W, Below w1.heap.size w1 W → BoxA W w.heap.size (.slice A n c) r ju)) (K1 : Hid (∀ W, Below w1.heap.size w1 W → BoxM W (w.heap.size + 1) m)) (LW : Hid (∀ W, Below w1.heap.size w1 W → Laid W))
    (T : ByteArray) (C42 : Hid (∀ W, Below w1.heap.size w1 W → Calls Tryz.prog 42 #[.agg #[.int .i64 m.id, .int .i64 m.arg, .int .u8 m.kind, .int .i64 m.n]] W fun e w' => e = .returned (.tuple #[.string T, .int .i64 4]) ∧ Below W.heap.size W w'))
    (C17 : Hid (∀ W, Below w1.heap.size w1 W → Calls Tryz.prog 17 #[.agg #[.slice A n c, .bool r.cell, .int .i64 r.n, .bool ju]] W fun e w' => e = .returned (.bool true) ∧ Below W.heap.size W w'))
    (C25 : Hid (∀ W, Below w1.heap.size w1 W → Calls Tryz.prog 25 #[.agg #[.slice A n c, .bool r.cell, .int .i64 r.n, .bool ju]] W fun e w' => e = .returned (.int .i64 0) ∧ Below W.heap.size W w'))
    (C19 : Hid (∀ W, Below w1.heap.size w1 W → Calls Tryz.prog 19 #[.agg #[.slice A n c, .bool r.cell, .int .i64 r.n, .bool ju]] W fun e w' => ∃ A' c', e = .returned (.agg #[.slice A' n c', .bool r.cell, .int .i64 r.n, .bool ju]) ∧ Hid (TyIn w' w'.heap.size (.slice A' n c') ids) ∧ Below W.heap.size W w'))
    (S S' : ByteArray) (j : Nat) (hSe : S.toList.isEmpty = false) (hSj : S.size = j + 1) (hj : j ≤ 1000) (hS' : S.extract 0 j = S')
    (C22 : Hid (∀ W A' c', TyIn W W.heap.size (.slice A' n c') ids → Calls Tryz.prog 22 #[.agg #[.slice A' n c', .bool r.cell, .int .i64 r.n, .bool ju]] W fun e w' => e = .returned (.tuple #[.string S, .int .i64 0]) ∧ Below W.heap.size W w'))
    (C46 : Hid (∀ W, Laid W → Calls Tryz.prog 46 #[.string S] W fun e w' => ∃ A' c', e = .returned (.tuple #[.agg #[.slice A' n c', .bool r.cell, .int .i64 r.n, .bool ju], .int .i64 0]) ∧ Hid (TyIn w' w'.heap.size (.slice A' n c') ids) ∧ Below W.heap.size W w'))
    (n2 : Nat) (r2 : Bs) (j2 : Bool) (ids2 : List Ty) (D46 : Hid (∀ W, Laid W → Calls Tryz.prog 46 #[.string S'] W fun e w' => ∃ A' c', e = .returned (.tuple #[.agg #[.slice A' n2 c', .bool r2.cell, .int .i64 r2.n, .bool j2], .int .i64 4]) ∧ Hid (TyIn w' w'.heap.size (.slice A' n2 c') ids2) ∧ Below W.heap.size W w'))
    (C27 : Hid (∀ W A' c', Below w1.heap.size w1 W → TyIn W W.heap.size (.slice A' n c') ids → Calls Tryz.prog 27 #[.agg #[.slice A n c, .bool r.cell, .int .i64 r.n, .bool ju], .agg #[.slice A' n c', .bool r.cell, .int .i64 r.n, .bool ju]] W fun e w' => e = .returned (.bool true) ∧ Below W.heap.size W w')) :
    Calls Tryz.prog 15 #[.agg #[.slice A n c, .bool r.cell, .int .i64 r.n, .bool ju], .agg #[.int .i64 m.id, .int .i64 m.arg, .int .u8 m.kind, .int .i64 m.n]] w fun e w' => e = .returned (.bool true) ∧ Below w.heap.size w w' := by
  obtain ⟨p0, p1, p2, p3⟩ := boxM_four (K1.out _ (Below.refl _ _))
  go_enter Tryz.func15, Tryz.ntmps15
  go_wp2_with (first
    | (go_at_call 42; ((with_reducible refine (C42.out _ (Below.refl _ _)).mono ?_); skip); rintro e w2 ⟨rfl, hb2⟩; have H2 : Hid (Below w1.heap.size w1 w2) := Lib.hid hb2; obtain ⟨a0, a1, a2, a3⟩ := boxA_four (K0.out _ H2.out))
    | (go_at_call 17; ((with_reducible refine (C17.out _ H2.out).mono ?_); skip); rintro e w5 ⟨rfl, hb5⟩; have H5 : Hid (Below w1.heap.size w1 w5) := Lib.hid (nm_on H2.out hb5); obtain ⟨b0, b1, b2, b3⟩ := boxA_four (K0.out _ H5.out))
    | (go_at_call 25; ((with_reducible refine (C25.out _ H5.out).mono ?_); skip); rintro e w6 ⟨rfl, hb6⟩; have H6 : Hid (Below w1.heap.size w1 w6) := Lib.hid (nm_on H5.out hb6); obtain ⟨d0, d1, d2, d3⟩ := boxA_four (K0.out _ H6.out))
    | (go_at_call 19; ((with_reducible refine (C19.out _ H6.out).mono ?_); skip); rintro e w7 ⟨A7, c7, rfl, HT7, hb7⟩; have H7 : Hid (Below w1.heap.size w1 w7) := Lib.hid (nm_on H6.out hb7))
    | (go_at_call 22; ((with_reducible refine (C22.out _ A7 c7 HT7.out).mono ?_); skip); rintro e w8 ⟨rfl, hb8⟩; have H8 : Hid (Below w1.heap.size w1 w8) := Lib.hid (nm_on H7.out hb8))
    | (go_at_call 46; ((with_reducible refine (C46.out _ (LW.out _ H8.out)).mono ?_); skip); rintro e w9 ⟨A9, c9, rfl, HT, hb9⟩; obtain ⟨z9, hz9⟩ : ∃ z9, w9.alloc (.cells #[.slice A9 n c9, .bool r.cell, .int .i64 r.n, .bool ju] 26) = z9 := ⟨_, rfl⟩; have H9 : Hid (Below w1.heap.size w1 z9) := Lib.hid (nm_box (nm_on H8.out hb9) hz9); have HT9 : Hid (TyIn z9 z9.heap.size (.slice A9 n c9) ids) := Lib.hid (tyIn_later HT.out (nm_box (Below.refl _ _) hz9)); have N9 : Hid (BoxA z9 w9.heap.size (.slice A9 n c9) r ju) := Lib.hid (by rw [← hz9]; exact World.alloc_heap_new w9 _); clear HT)
    | (go_at_call 46; ((with_reducible refine (D46.out _ (LW.out _ H9.out)).mono ?_); skip); rintro e w10 ⟨A10, c10, rfl, HT, hb10⟩; obtain ⟨z10, hz10⟩ : ∃ z10, w10.alloc (.cells #[.slice A10 n2 c10, .bool r2.cell, .int .i64 r2.n, .bool j2] 26) = z10 := ⟨_, rfl⟩; have H10 : Hid (Below w1.heap.size w1 z10) := Lib.hid (nm_box (nm_on H9.out hb10) hz10); have HT10 : Hid (TyIn z10 z10.heap.size (.slice A10 n2 c10) ids2) := Lib.hid (tyIn_later HT.out (nm_box (Below.refl _ _) hz10)); have HU10 : Hid (TyIn z10 z10.heap.size (.slice A9 n c9) ids) := Lib.hid (tyIn_later HT9.out (nm_box hb10 hz10)); have N10 : Hid (BoxA z10 w10.heap.size (.slice A10 n2 c10) r2 j2) := Lib.hid (by rw [← hz10]; exact World.alloc_heap_new w10 _); clear HT; obtain ⟨e0, e1, e2, e3⟩ := boxA_four (K0.out _ H10.out); obtain ⟨f0, f1, f2, f3⟩ := boxA_four (boxA_at N9.out (nm_box hb10 hz10)))
    | (go_at_call 27; ((with_reducible refine (C27.out _ A9 c9 H10.out HU10.out).mono ?_); skip); rintro e w11 ⟨rfl, hb11⟩; have H11 : Hid (Below w1.heap.size w1 w11) := Lib.hid (nm_on H10.out hb11))
    | (go_at_call 18; ((with_reducible refine (awake_any _ (LW.out _ H11.out)).mono ?_); skip); rintro e w20 ⟨rfl, hb20⟩; have H20 : Hid (Below w1.heap.size w1 _) := Lib.hid (nm_on H11.out hb20)))
  go_ret
  exact ⟨rfl, HB.out.trans (H20.out.mono HB.out.size)⟩

set_option maxRecDepth 100000 in
set_option maxHeartbeats 2000000 in
theorem law15_ty (A : Option Addr) (n c : Nat) (r : Bs) (ju : Bool) (ids : List Ty) (m : Mv) (w w1 : World)
    (hw1 : (w.alloc (.cells #[.slice A n c, .bool r.cell, .int .i64 r.n, .bool ju] 26)).alloc (.cells #[.int .i64 m.id, .int .i64 m.arg, .int .u8 m.kind, .int .i64 m.n] 40) = w1) (HB : Hid (Below w.heap.size w w1))
    (K0 : Hid (∀ W, Below w1.heap.size w1 W → BoxA W w.heap.size (.slice A n c) r ju)) (K1 : Hid (∀ W, Below w1.heap.size w1 W → BoxM W (w.heap.size + 1) m)) (LW : Hid (∀ W, Below w1.heap.size w1 W → Laid W))
    (T : ByteArray) (C42 : Hid (∀ W, Below w1.heap.size w1 W → Calls Tryz.prog 42 #[.agg #[.int .i64 m.id, .int .i64 m.arg, .int .u8 m.kind, .int .i64 m.n]] W fun e w' => e = .returned (.tuple #[.string T, .int .i64 4]) ∧ Below W.heap.size W w'))
    (C17 : Hid (∀ W, Below w1.heap.size w1 W → Calls Tryz.prog 17 #[.agg #[.slice A n c, .bool r.cell, .int .i64 r.n, .bool ju]] W fun e w' => e = .returned (.bool true) ∧ Below W.heap.size W w'))
    (C25 : Hid (∀ W, Below w1.heap.size w1 W → Calls Tryz.prog 25 #[.agg #[.slice A n c, .bool r.cell, .int .i64 r.n, .bool ju]] W fun e w' => e = .returned (.int .i64 0) ∧ Below W.heap.size W w'))
    (C19 : Hid (∀ W, Below w1.heap.size w1 W → Calls Tryz.prog 19 #[.agg #[.slice A n c, .bool r.cell, .int .i64 r.n, .bool ju]] W fun e w' => ∃ A' c', e = .returned (.agg #[.slice A' n c', .bool r.cell, .int .i64 r.n, .bool ju]) ∧ Hid (TyIn w' w'.heap.size (.slice A' n c') ids) ∧ Below W.heap.size W w'))
    (S S' : ByteArray) (j : Nat) (hSe : S.toList.isEmpty = false) (hSj : S.size = j + 1) (hj : j ≤ 1000) (hS' : S.extract 0 j = S')
    (C22 : Hid (∀ W A' c', TyIn W W.heap.size (.slice A' n c') ids → Calls Tryz.prog 22 #[.agg #[.slice A' n c', .bool r.cell, .int .i64 r.n, .bool ju]] W fun e w' => e = .returned (.tuple #[.string S, .int .i64 0]) ∧ Below W.heap.size W w'))
    (C46 : Hid (∀ W, Laid W → Calls Tryz.prog 46 #[.string S] W fun e w' => ∃ A' c', e = .returned (.tuple #[.agg #[.slice A' n c', .bool r.cell, .int .i64 r.n, .bool ju], .int .i64 0]) ∧ Hid (TyIn w' w'.heap.size (.slice A' n c') ids) ∧ Below W.heap.size W w'))
    (n2 : Nat) (r2 : Bs) (j2 : Bool) (ids2 : List Ty) (D46 : Hid (∀ W, Laid W → Calls Tryz.prog 46 #[.string S'] W fun e w' => ∃ A' c', e = .returned (.tuple #[.agg #[.slice A' n2 c', .bool r2.cell, .int .i64 r2.n, .bool j2], .int .i64 0]) ∧ Hid (TyIn w' w'.heap.size (.slice A' n2 c') ids2) ∧ Below W.heap.size W w'))
    (C27 : Hid (∀ W A' c', Below w1.heap.size w1 W → TyIn W W.heap.size (.slice A' n c') ids → Calls Tryz.prog 27 #[.agg #[.slice A n c, .bool r.cell, .int .i64 r.n, .bool ju], .agg #[.slice A' n c', .bool r.cell, .int .i64 r.n, .bool ju]] W fun e w' => e = .returned (.bool true) ∧ Below W.heap.size W w'))
    (D27 : Hid (∀ W A' c', Below w1.heap.size w1 W → TyIn W W.heap.size (.slice A' n2 c') ids2 → Calls Tryz.prog 27 #[.agg #[.slice A n c, .bool r.cell, .int .i64 r.n, .bool ju], .agg #[.slice A' n2 c', .bool r2.cell, .int .i64 r2.n, .bool j2]] W fun e w' => e = .returned (.bool false) ∧ Below W.heap.size W w')) :
    Calls Tryz.prog 15 #[.agg #[.slice A n c, .bool r.cell, .int .i64 r.n, .bool ju], .agg #[.int .i64 m.id, .int .i64 m.arg, .int .u8 m.kind, .int .i64 m.n]] w fun e w' => e = .returned (.bool true) ∧ Below w.heap.size w w' := by
  obtain ⟨p0, p1, p2, p3⟩ := boxM_four (K1.out _ (Below.refl _ _))
  go_enter Tryz.func15, Tryz.ntmps15
  go_wp2_with (first
    | (go_at_call 42; ((with_reducible refine (C42.out _ (Below.refl _ _)).mono ?_); skip); rintro e w2 ⟨rfl, hb2⟩; have H2 : Hid (Below w1.heap.size w1 w2) := Lib.hid hb2; obtain ⟨a0, a1, a2, a3⟩ := boxA_four (K0.out _ H2.out))
    | (go_at_call 17; ((with_reducible refine (C17.out _ H2.out).mono ?_); skip); rintro e w5 ⟨rfl, hb5⟩; have H5 : Hid (Below w1.heap.size w1 w5) := Lib.hid (nm_on H2.out hb5); obtain ⟨b0, b1, b2, b3⟩ := boxA_four (K0.out _ H5.out))
    | (go_at_call 25; ((with_reducible refine (C25.out _ H5.out).mono ?_); skip); rintro e w6 ⟨rfl, hb6⟩; have H6 : Hid (Below w1.heap.size w1 w6) := Lib.hid (nm_on H5.out hb6); obtain ⟨d0, d1, d2, d3⟩ := boxA_four (K0.out _ H6.out))
    | (go_at_call 19; ((with_reducible refine (C19.out _ H6.out).mono ?_); skip); rintro e w7 ⟨A7, c7, rfl, HT7, hb7⟩; have H7 : Hid (Below w1.heap.size w1 w7) := Lib.hid (nm_on H6.out hb7))
    | (go_at_call 22; ((with_reducible refine (C22.out _ A7 c7 HT7.out).mono ?_); skip); rintro e w8 ⟨rfl, hb8⟩; have H8 : Hid (Below w1.heap.size w1 w8) := Lib.hid (nm_on H7.out hb8))
    | (go_at_call 46; ((with_reducible refine (C46.out _ (LW.out _ H8.out)).mono ?_); skip); rintro e w9 ⟨A9, c9, rfl, HT, hb9⟩; obtain ⟨z9, hz9⟩ : ∃ z9, w9.alloc (.cells #[.slice A9 n c9, .bool r.cell, .int .i64 r.n, .bool ju] 26) = z9 := ⟨_, rfl⟩; have H9 : Hid (Below w1.heap.size w1 z9) := Lib.hid (nm_box (nm_on H8.out hb9) hz9); have HT9 : Hid (TyIn z9 z9.heap.size (.slice A9 n c9) ids) := Lib.hid (tyIn_later HT.out (nm_box (Below.refl _ _) hz9)); have N9 : Hid (BoxA z9 w9.heap.size (.slice A9 n c9) r ju) := Lib.hid (by rw [← hz9]; exact World.alloc_heap_new w9 _); clear HT)
    | (go_at_call 46; ((with_reducible refine (D46.out _ (LW.out _ H9.out)).mono ?_); skip); rintro e w10 ⟨A10, c10, rfl, HT, hb10⟩; obtain ⟨z10, hz10⟩ : ∃ z10, w10.alloc (.cells #[.slice A10 n2 c10, .bool r2.cell, .int .i64 r2.n, .bool j2] 26) = z10 := ⟨_, rfl⟩; have H10 : Hid (Below w1.heap.size w1 z10) := Lib.hid (nm_box (nm_on H9.out hb10) hz10); have HT10 : Hid (TyIn z10 z10.heap.size (.slice A10 n2 c10) ids2) := Lib.hid (tyIn_later HT.out (nm_box (Below.refl _ _) hz10)); have HU10 : Hid (TyIn z10 z10.heap.size (.slice A9 n c9) ids) := Lib.hid (tyIn_later HT9.out (nm_box hb10 hz10)); have N10 : Hid (BoxA z10 w10.heap.size (.slice A10 n2 c10) r2 j2) := Lib.hid (by rw [← hz10]; exact World.alloc_heap_new w10 _); clear HT; obtain ⟨e0, e1, e2, e3⟩ := boxA_four (K0.out _ H10.out); obtain ⟨f0, f1, f2, f3⟩ := boxA_four (boxA_at N9.out (nm_box hb10 hz10)))
    | (go_at_call 27; ((with_reducible refine (C27.out _ A9 c9 H10.out HU10.out).mono ?_); skip); rintro e w11 ⟨rfl, hb11⟩; have H11 : Hid (Below w1.heap.size w1 w11) := Lib.hid (nm_on H10.out hb11); have HT11 : Hid (TyIn w11 w11.heap.size (.slice A10 n2 c10) ids2) := Lib.hid (tyIn_later HT10.out hb11); obtain ⟨g0, g1, g2, g3⟩ := boxA_four (K0.out _ H11.out); obtain ⟨i0, i1, i2, i3⟩ := boxA_four (boxA_at N10.out hb11))
    | (go_at_call 27; ((with_reducible refine (D27.out _ A10 c10 H11.out HT11.out).mono ?_); skip); rintro e w12 ⟨rfl, hb12⟩; have H12 : Hid (Below w1.heap.size w1 w12) := Lib.hid (nm_on H11.out hb12))
    | (go_at_call 18; ((with_reducible refine (awake_any _ (LW.out _ H12.out)).mono ?_); skip); rintro e w20 ⟨rfl, hb20⟩; have H20 : Hid (Below w1.heap.size w1 _) := Lib.hid (nm_on H12.out hb20)))
  go_ret
  exact ⟨rfl, HB.out.trans (H20.out.mono HB.out.size)⟩

set_option maxRecDepth 100000 in
set_option maxHeartbeats 2000000 in
theorem law15_gn (A : Option Addr) (n c : Nat) (r : Bs) (ju : Bool) (m : Mv) (w w1 : World)
    (hw1 : (w.alloc (.cells #[.slice A n c, .bool r.cell, .int .i64 r.n, .bool ju] 26)).alloc (.cells #[.int .i64 m.id, .int .i64 m.arg, .int .u8 m.kind, .int .i64 m.n] 40) = w1) (HB : Hid (Below w.heap.size w w1))
    (K0 : Hid (∀ W, Below w1.heap.size w1 W → BoxA W w.heap.size (.slice A n c) r ju)) (K1 : Hid (∀ W, Below w1.heap.size w1 W → BoxM W (w.heap.size + 1) m)) (LW : Hid (∀ W, Below w1.heap.size w1 W → Laid W))
    (T : ByteArray) (C42 : Hid (∀ W, Below w1.heap.size w1 W → Calls Tryz.prog 42 #[.agg #[.int .i64 m.id, .int .i64 m.arg, .int .u8 m.kind, .int .i64 m.n]] W fun e w' => e = .returned (.tuple #[.string T, .int .i64 0]) ∧ Below W.heap.size W w'))
    (T' : ByteArray) (k : Nat) (hTe : T.toList.isEmpty = false) (hTk : T.size = k + 1) (hk : k ≤ 1000) (hT' : T.extract 0 k = T') (o : Mv)
    (C43 : Hid (∀ W, Below w1.heap.size w1 W → Calls Tryz.prog 43 #[.string T] W fun e w' => e = .returned (.tuple #[.agg #[.int .i64 m.id, .int .i64 m.arg, .int .u8 m.kind, .int .i64 m.n], .int .i64 0]) ∧ Below W.heap.size W w'))
    (D43 : Hid (∀ W, Below w1.heap.size w1 W → Calls Tryz.prog 43 #[.string T'] W fun e w' => e = .returned (.tuple #[.agg #[.int .i64 o.id, .int .i64 o.arg, .int .u8 o.kind, .int .i64 o.n], .int .i64 4]) ∧ Below W.heap.size W w'))
    (hNE : ∀ W, (binOp .neq 40 (.agg #[.int .i64 m.id, .int .i64 m.arg, .int .u8 m.kind, .int .i64 m.n]) (.agg #[.int .i64 m.id, .int .i64 m.arg, .int .u8 m.kind, .int .i64 m.n])).run Tryz.prog W = .ok (.bool false) W)
    (g40 : Tryz.prog.eqGuardType Tryz.prog.depth 40 = false)
    (C17 : Hid (∀ W, Below w1.heap.size w1 W → Calls Tryz.prog 17 #[.agg #[.slice A n c, .bool r.cell, .int .i64 r.n, .bool ju]] W fun e w' => e = .returned (.bool false) ∧ Below W.heap.size W w')) :
    Calls Tryz.prog 15 #[.agg #[.slice A n c, .bool r.cell, .int .i64 r.n, .bool ju], .agg #[.int .i64 m.id, .int .i64 m.arg, .int .u8 m.kind, .int .i64 m.n]] w fun e w' => e = .returned (.bool true) ∧ Below w.heap.size w w' := by
  obtain ⟨p0, p1, p2, p3⟩ := boxM_four (K1.out _ (Below.refl _ _))
  go_enter Tryz.func15, Tryz.ntmps15
  go_wp2_with (first
    | (go_at_call 42; ((with_reducible refine (C42.out _ (Below.refl _ _)).mono ?_); skip); rintro e w2 ⟨rfl, hb2⟩; have H2 : Hid (Below w1.heap.size w1 w2) := Lib.hid hb2)
    | (go_at_call 43; ((with_reducible refine (C43.out _ H2.out).mono ?_); skip); rintro e w3 ⟨rfl, hb3⟩; obtain ⟨z3, hz3⟩ : ∃ z3, w3.alloc (.cells #[.int .i64 m.id, .int .i64 m.arg, .int .u8 m.kind, .int .i64 m.n] 40) = z3 := ⟨_, rfl⟩; have H3 : Hid (Below w1.heap.size w1 z3) := Lib.hid (nm_box (nm_on H2.out hb3) hz3); have N3 : Hid (BoxM z3 w3.heap.size m) := Lib.hid (hz3 ▸ BoxM.new w3 m))
    | (go_at_call 43; ((with_reducible refine (D43.out _ H3.out).mono ?_); skip); rintro e w4 ⟨rfl, hb4⟩; obtain ⟨z4, hz4⟩ : ∃ z4, w4.alloc (.cells #[.int .i64 o.id, .int .i64 o.arg, .int .u8 o.kind, .int .i64 o.n] 40) = z4 := ⟨_, rfl⟩; have H4 : Hid (Below w1.heap.size w1 z4) := Lib.hid (nm_box (nm_on H3.out hb4) hz4); obtain ⟨qn0, qn1, qn2, qn3⟩ := boxM_four (boxM_at N3.out (nm_box hb4 hz4)); obtain ⟨m0, m1, m2, m3⟩ := boxM_four (K1.out _ H4.out); obtain ⟨o0, o1, o2, o3⟩ := boxM_four (show BoxM z4 w4.heap.size o from hz4 ▸ BoxM.new w4 o); obtain ⟨a0, a1, a2, a3⟩ := boxA_four (K0.out _ H4.out))
    | (go_at_call 17; ((with_reducible refine (C17.out _ H4.out).mono ?_); skip); rintro e w5 ⟨rfl, hb5⟩; have H5 : Hid (Below w1.heap.size w1 w5) := Lib.hid (nm_on H4.out hb5))
    | (go_at_call 18; ((with_reducible refine (awake_any _ (LW.out _ H5.out)).mono ?_); skip); rintro e w20 ⟨rfl, hb20⟩; have H20 : Hid (Below w1.heap.size w1 _) := Lib.hid (nm_on H5.out hb20)))
  go_ret
  exact ⟨rfl, HB.out.trans (H20.out.mono HB.out.size)⟩

set_option maxRecDepth 100000 in
set_option maxHeartbeats 2000000 in
theorem law15_gc (A : Option Addr) (n c : Nat) (r : Bs) (ju : Bool) (m : Mv) (w w1 : World)
    (hw1 : (w.alloc (.cells #[.slice A n c, .bool r.cell, .int .i64 r.n, .bool ju] 26)).alloc (.cells #[.int .i64 m.id, .int .i64 m.arg, .int .u8 m.kind, .int .i64 m.n] 40) = w1) (HB : Hid (Below w.heap.size w w1))
    (K0 : Hid (∀ W, Below w1.heap.size w1 W → BoxA W w.heap.size (.slice A n c) r ju)) (K1 : Hid (∀ W, Below w1.heap.size w1 W → BoxM W (w.heap.size + 1) m)) (LW : Hid (∀ W, Below w1.heap.size w1 W → Laid W))
    (T : ByteArray) (C42 : Hid (∀ W, Below w1.heap.size w1 W → Calls Tryz.prog 42 #[.agg #[.int .i64 m.id, .int .i64 m.arg, .int .u8 m.kind, .int .i64 m.n]] W fun e w' => e = .returned (.tuple #[.string T, .int .i64 0]) ∧ Below W.heap.size W w'))
    (T' : ByteArray) (k : Nat) (hTe : T.toList.isEmpty = false) (hTk : T.size = k + 1) (hk : k ≤ 1000) (hT' : T.extract 0 k = T') (o : Mv)
    (C43 : Hid (∀ W, Below w1.heap.size w1 W → Calls Tryz.prog 43 #[.string T] W fun e w' => e = .returned (.tuple #[.agg #[.int .i64 m.id, .int .i64 m.arg, .int .u8 m.kind, .int .i64 m.n], .int .i64 0]) ∧ Below W.heap.size W w'))
    (D43 : Hid (∀ W, Below w1.heap.size w1 W → Calls Tryz.prog 43 #[.string T'] W fun e w' => e = .returned (.tuple #[.agg #[.int .i64 o.id, .int .i64 o.arg, .int .u8 o.kind, .int .i64 o.n], .int .i64 4]) ∧ Below W.heap.size W w'))
    (hNE : ∀ W, (binOp .neq 40 (.agg #[.int .i64 m.id, .int .i64 m.arg, .int .u8 m.kind, .int .i64 m.n]) (.agg #[.int .i64 m.id, .int .i64 m.arg, .int .u8 m.kind, .int .i64 m.n])).run Tryz.prog W = .ok (.bool false) W)
    (g40 : Tryz.prog.eqGuardType Tryz.prog.depth 40 = false)
    (C17 : Hid (∀ W, Below w1.heap.size w1 W → Calls Tryz.prog 17 #[.agg #[.slice A n c, .bool r.cell, .int .i64 r.n, .bool ju]] W fun e w' => e = .returned (.bool true) ∧ Below W.heap.size W w'))
    (ck : Int) (hck : (ck == 0) = false)
    (C25 : Hid (∀ W, Below w1.heap.size w1 W → Calls Tryz.prog 25 #[.agg #[.slice A n c, .bool r.cell, .int .i64 r.n, .bool ju]] W fun e w' => e = .returned (.int .i64 ck) ∧ Below W.heap.size W w')) :
    Calls Tryz.prog 15 #[.agg #[.slice A n c, .bool r.cell, .int .i64 r.n, .bool ju], .agg #[.int .i64 m.id, .int .i64 m.arg, .int .u8 m.kind, .int .i64 m.n]] w fun e w' => e = .returned (.bool true) ∧ Below w.heap.size w w' := by
  obtain ⟨p0, p1, p2, p3⟩ := boxM_four (K1.out _ (Below.refl _ _))
  go_enter Tryz.func15, Tryz.ntmps15
  go_wp2_with (first
    | (go_at_call 42; ((with_reducible refine (C42.out _ (Below.refl _ _)).mono ?_); skip); rintro e w2 ⟨rfl, hb2⟩; have H2 : Hid (Below w1.heap.size w1 w2) := Lib.hid hb2)
    | (go_at_call 43; ((with_reducible refine (C43.out _ H2.out).mono ?_); skip); rintro e w3 ⟨rfl, hb3⟩; obtain ⟨z3, hz3⟩ : ∃ z3, w3.alloc (.cells #[.int .i64 m.id, .int .i64 m.arg, .int .u8 m.kind, .int .i64 m.n] 40) = z3 := ⟨_, rfl⟩; have H3 : Hid (Below w1.heap.size w1 z3) := Lib.hid (nm_box (nm_on H2.out hb3) hz3); have N3 : Hid (BoxM z3 w3.heap.size m) := Lib.hid (hz3 ▸ BoxM.new w3 m))
    | (go_at_call 43; ((with_reducible refine (D43.out _ H3.out).mono ?_); skip); rintro e w4 ⟨rfl, hb4⟩; obtain ⟨z4, hz4⟩ : ∃ z4, w4.alloc (.cells #[.int .i64 o.id, .int .i64 o.arg, .int .u8 o.kind, .int .i64 o.n] 40) = z4 := ⟨_, rfl⟩; have H4 : Hid (Below w1.heap.size w1 z4) := Lib.hid (nm_box (nm_on H3.out hb4) hz4); obtain ⟨qn0, qn1, qn2, qn3⟩ := boxM_four (boxM_at N3.out (nm_box hb4 hz4)); obtain ⟨m0, m1, m2, m3⟩ := boxM_four (K1.out _ H4.out); obtain ⟨o0, o1, o2, o3⟩ := boxM_four (show BoxM z4 w4.heap.size o from hz4 ▸ BoxM.new w4 o); obtain ⟨a0, a1, a2, a3⟩ := boxA_four (K0.out _ H4.out))
    | (go_at_call 17; ((with_reducible refine (C17.out _ H4.out).mono ?_); skip); rintro e w5 ⟨rfl, hb5⟩; have H5 : Hid (Below w1.heap.size w1 w5) := Lib.hid (nm_on H4.out hb5); obtain ⟨b0, b1, b2, b3⟩ := boxA_four (K0.out _ H5.out))
    | (go_at_call 25; ((with_reducible refine (C25.out _ H5.out).mono ?_); skip); rintro e w6 ⟨rfl, hb6⟩; have H6 : Hid (Below w1.heap.size w1 w6) := Lib.hid (nm_on H5.out hb6))
    | (go_at_call 18; ((with_reducible refine (awake_any _ (LW.out _ H6.out)).mono ?_); skip); rintro e w20 ⟨rfl, hb20⟩; have H20 : Hid (Below w1.heap.size w1 _) := Lib.hid (nm_on H6.out hb20)))
  go_ret
  exact ⟨rfl, HB.out.trans (H20.out.mono HB.out.size)⟩

set_option maxRecDepth 100000 in
set_option maxHeartbeats 2000000 in
theorem law15_gx (A : Option Addr) (n c : Nat) (r : Bs) (ju : Bool) (ids : List Ty) (m : Mv) (w w1 : World)
    (hw1 : (w.alloc (.cells #[.slice A n c, .bool r.cell, .int .i64 r.n, .bool ju] 26)).alloc (.cells #[.int .i64 m.id, .int .i64 m.arg, .int .u8 m.kind, .int .i64 m.n] 40) = w1) (HB : Hid (Below w.heap.size w w1))
    (K0 : Hid (∀ W, Below w1.heap.size w1 W → BoxA W w.heap.size (.slice A n c) r ju)) (K1 : Hid (∀ W, Below w1.heap.size w1 W → BoxM W (w.heap.size + 1) m)) (LW : Hid (∀ W, Below w1.heap.size w1 W → Laid W))
    (T : ByteArray) (C42 : Hid (∀ W, Below w1.heap.size w1 W → Calls Tryz.prog 42 #[.agg #[.int .i64 m.id, .int .i64 m.arg, .int .u8 m.kind, .int .i64 m.n]] W fun e w' => e = .returned (.tuple #[.string T, .int .i64 0]) ∧ Below W.heap.size W w'))
    (T' : ByteArray) (k : Nat) (hTe : T.toList.isEmpty = false) (hTk : T.size = k + 1) (hk : k ≤ 1000) (hT' : T.extract 0 k = T') (o : Mv)
    (C43 : Hid (∀ W, Below w1.heap.size w1 W → Calls Tryz.prog 43 #[.string T] W fun e w' => e = .returned (.tuple #[.agg #[.int .i64 m.id, .int .i64 m.arg, .int .u8 m.kind, .int .i64 m.n], .int .i64 0]) ∧ Below W.heap.size W w'))
    (D43 : Hid (∀ W, Below w1.heap.size w1 W → Calls Tryz.prog 43 #[.string T'] W fun e w' => e = .returned (.tuple #[.agg #[.int .i64 o.id, .int .i64 o.arg, .int .u8 o.kind, .int .i64 o.n], .int .i64 4]) ∧ Below W.heap.size W w'))
    (hNE : ∀ W, (binOp .neq 40 (.agg #[.int .i64 m.id, .int .i64 m.arg, .int .u8 m.kind, .int .i64 m.n]) (.agg #[.int .i64 m.id, .int .i64 m.arg, .int .u8 m.kind, .int .i64 m.n])).run Tryz.prog W = .ok (.bool false) W)
    (g40 : Tryz.prog.eqGuardType Tryz.prog.depth 40 = false)
    (C17 : Hid (∀ W, Below w1.heap.size w1 W → Calls Tryz.prog 17 #[.agg #[.slice A n c, .bool r.cell, .int .i64 r.n, .bool ju]] W fun e w' => e = .returned (.bool true) ∧ Below W.heap.size W w'))
    (C25 : Hid (∀ W, Below w1.heap.size w1 W → Calls Tryz.prog 25 #[.agg #[.slice A n c, .bool r.cell, .int .i64 r.n, .bool ju]] W fun e w' => e = .returned (.int .i64 0) ∧ Below W.heap.size W w'))
    (C19 : Hid (∀ W, Below w1.heap.size w1 W → Calls Tryz.prog 19 #[.agg #[.slice A n c, .bool r.cell, .int .i64 r.n, .bool ju]] W fun e w' => ∃ A' c', e = .returned (.agg #[.slice A' n c', .bool r.cell, .int .i64 r.n, .bool ju]) ∧ Hid (TyIn w' w'.heap.size (.slice A' n c') ids) ∧ Below W.heap.size W w'))
    (S S' : ByteArray) (j : Nat) (hSe : S.toList.isEmpty = false) (hSj : S.size = j + 1) (hj : j ≤ 1000) (hS' : S.extract 0 j = S')
    (C22 : Hid (∀ W A' c', TyIn W W.heap.size (.slice A' n c') ids → Calls Tryz.prog 22 #[.agg #[.slice A' n c', .bool r.cell, .int .i64 r.n, .bool ju]] W fun e w' => e = .returned (.tuple #[.string S, .int .i64 0]) ∧ Below W.heap.size W w'))
    (C46 : Hid (∀ W, Laid W → Calls Tryz.prog 46 #[.string S] W fun e w' => ∃ A' c', e = .returned (.tuple #[.agg #[.slice A' n c', .bool r.cell, .int .i64 r.n, .bool ju], .int .i64 0]) ∧ Hid (TyIn w' w'.heap.size (.slice A' n c') ids) ∧ Below W.heap.size W w'))
    (n2 : Nat) (r2 : Bs) (j2 : Bool) (ids2 : List Ty) (D46 : Hid (∀ W, Laid W → Calls Tryz.prog 46 #[.string S'] W fun e w' => ∃ A' c', e = .returned (.tuple #[.agg #[.slice A' n2 c', .bool r2.cell, .int .i64 r2.n, .bool j2], .int .i64 4]) ∧ Hid (TyIn w' w'.heap.size (.slice A' n2 c') ids2) ∧ Below W.heap.size W w'))
    (C27 : Hid (∀ W A' c', Below w1.heap.size w1 W → TyIn W W.heap.size (.slice A' n c') ids → Calls Tryz.prog 27 #[.agg #[.slice A n c, .bool r.cell, .int .i64 r.n, .bool ju], .agg #[.slice A' n c', .bool r.cell, .int .i64 r.n, .bool ju]] W fun e w' => e = .returned (.bool true) ∧ Below W.heap.size W w')) :
    Calls Tryz.prog 15 #[.agg #[.slice A n c, .bool r.cell, .int .i64 r.n, .bool ju], .agg #[.int .i64 m.id, .int .i64 m.arg, .int .u8 m.kind, .int .i64 m.n]] w fun e w' => e = .returned (.bool true) ∧ Below w.heap.size w w' := by
  obtain ⟨p0, p1, p2, p3⟩ := boxM_four (K1.out _ (Below.refl _ _))
  go_enter Tryz.func15, Tryz.ntmps15
  go_wp2_with (first
    | (go_at_call 42; ((with_reducible refine (C42.out _ (Below.refl _ _)).mono ?_); skip); rintro e w2 ⟨rfl, hb2⟩; have H2 : Hid (Below w1.heap.size w1 w2) := Lib.hid hb2)
    | (go_at_call 43; ((with_reducible refine (C43.out _ H2.out).mono ?_); skip); rintro e w3 ⟨rfl, hb3⟩; obtain ⟨z3, hz3⟩ : ∃ z3, w3.alloc (.cells #[.int .i64 m.id, .int .i64 m.arg, .int .u8 m.kind, .int .i64 m.n] 40) = z3 := ⟨_, rfl⟩; have H3 : Hid (Below w1.heap.size w1 z3) := Lib.hid (nm_box (nm_on H2.out hb3) hz3); have N3 : Hid (BoxM z3 w3.heap.size m) := Lib.hid (hz3 ▸ BoxM.new w3 m))
    | (go_at_call 43; ((with_reducible refine (D43.out _ H3.out).mono ?_); skip); rintro e w4 ⟨rfl, hb4⟩; obtain ⟨z4, hz4⟩ : ∃ z4, w4.alloc (.cells #[.int .i64 o.id, .int .i64 o.arg, .int .u8 o.kind, .int .i64 o.n] 40) = z4 := ⟨_, rfl⟩; have H4 : Hid (Below w1.heap.size w1 z4) := Lib.hid (nm_box (nm_on H3.out hb4) hz4); obtain ⟨qn0, qn1, qn2, qn3⟩ := boxM_four (boxM_at N3.out (nm_box hb4 hz4)); obtain ⟨m0, m1, m2, m3⟩ := boxM_four (K1.out _ H4.out); obtain ⟨o0, o1, o2, o3⟩ := boxM_four (show BoxM z4 w4.heap.size o from hz4 ▸ BoxM.new w4 o); obtain ⟨a0, a1, a2, a3⟩ := boxA_four (K0.out _ H4.out))
    | (go_at_call 17; ((with_reducible refine (C17.out _ H4.out).mono ?_); skip); rintro e w5 ⟨rfl, hb5⟩; have H5 : Hid (Below w1.heap.size w1 w5) := Lib.hid (nm_on H4.out hb5); obtain ⟨b0, b1, b2, b3⟩ := boxA_four (K0.out _ H5.out))
    | (go_at_call 25; ((with_reducible refine (C25.out _ H5.out).mono ?_); skip); rintro e w6 ⟨rfl, hb6⟩; have H6 : Hid (Below w1.heap.size w1 w6) := Lib.hid (nm_on H5.out hb6); obtain ⟨d0, d1, d2, d3⟩ := boxA_four (K0.out _ H6.out))
    | (go_at_call 19; ((with_reducible refine (C19.out _ H6.out).mono ?_); skip); rintro e w7 ⟨A7, c7, rfl, HT7, hb7⟩; have H7 : Hid (Below w1.heap.size w1 w7) := Lib.hid (nm_on H6.out hb7))
    | (go_at_call 22; ((with_reducible refine (C22.out _ A7 c7 HT7.out).mono ?_); skip); rintro e w8 ⟨rfl, hb8⟩; have H8 : Hid (Below w1.heap.size w1 w8) := Lib.hid (nm_on H7.out hb8))
    | (go_at_call 46; ((with_reducible refine (C46.out _ (LW.out _ H8.out)).mono ?_); skip); rintro e w9 ⟨A9, c9, rfl, HT, hb9⟩; obtain ⟨z9, hz9⟩ : ∃ z9, w9.alloc (.cells #[.slice A9 n c9, .bool r.cell, .int .i64 r.n, .bool ju] 26) = z9 := ⟨_, rfl⟩; have H9 : Hid (Below w1.heap.size w1 z9) := Lib.hid (nm_box (nm_on H8.out hb9) hz9); have HT9 : Hid (TyIn z9 z9.heap.size (.slice A9 n c9) ids) := Lib.hid (tyIn_later HT.out (nm_box (Below.refl _ _) hz9)); have N9 : Hid (BoxA z9 w9.heap.size (.slice A9 n c9) r ju) := Lib.hid (by rw [← hz9]; exact World.alloc_heap_new w9 _); clear HT)
    | (go_at_call 46; ((with_reducible refine (D46.out _ (LW.out _ H9.out)).mono ?_); skip); rintro e w10 ⟨A10, c10, rfl, HT, hb10⟩; obtain ⟨z10, hz10⟩ : ∃ z10, w10.alloc (.cells #[.slice A10 n2 c10, .bool r2.cell, .int .i64 r2.n, .bool j2] 26) = z10 := ⟨_, rfl⟩; have H10 : Hid (Below w1.heap.size w1 z10) := Lib.hid (nm_box (nm_on H9.out hb10) hz10); have HT10 : Hid (TyIn z10 z10.heap.size (.slice A10 n2 c10) ids2) := Lib.hid (tyIn_later HT.out (nm_box (Below.refl _ _) hz10)); have HU10 : Hid (TyIn z10 z10.heap.size (.slice A9 n c9) ids) := Lib.hid (tyIn_later HT9.out (nm_box hb10 hz10)); have N10 : Hid (BoxA z10 w10.heap.size (.slice A10 n2 c10) r2 j2) := Lib.hid (by rw [← hz10]; exact World.alloc_heap_new w10 _); clear HT; obtain ⟨e0, e1, e2, e3⟩ := boxA_four (K0.out _ H10.out); obtain ⟨f0, f1, f2, f3⟩ := boxA_four (boxA_at N9.out (nm_box hb10 hz10)))
    | (go_at_call 27; ((with_reducible refine (C27.out _ A9 c9 H10.out HU10.out).mono ?_); skip); rintro e w11 ⟨rfl, hb11⟩; have H11 : Hid (Below w1.heap.size w1 w11) := Lib.hid (nm_on H10.out hb11))
    | (go_at_call 18; ((with_reducible refine (awake_any _ (LW.out _ H11.out)).mono ?_); skip); rintro e w20 ⟨rfl, hb20⟩; have H20 : Hid (Below w1.heap.size w1 _) := Lib.hid (nm_on H11.out hb20)))
  go_ret
  exact ⟨rfl, HB.out.trans (H20.out.mono HB.out.size)⟩

set_option maxRecDepth 100000 in
set_option maxHeartbeats 2000000 in
theorem law15_gy (A : Option Addr) (n c : Nat) (r : Bs) (ju : Bool) (ids : List Ty) (m : Mv) (w w1 : World)
    (hw1 : (w.alloc (.cells #[.slice A n c, .bool r.cell, .int .i64 r.n, .bool ju] 26)).alloc (.cells #[.int .i64 m.id, .int .i64 m.arg, .int .u8 m.kind, .int .i64 m.n] 40) = w1) (HB : Hid (Below w.heap.size w w1))
    (K0 : Hid (∀ W, Below w1.heap.size w1 W → BoxA W w.heap.size (.slice A n c) r ju)) (K1 : Hid (∀ W, Below w1.heap.size w1 W → BoxM W (w.heap.size + 1) m)) (LW : Hid (∀ W, Below w1.heap.size w1 W → Laid W))
    (T : ByteArray) (C42 : Hid (∀ W, Below w1.heap.size w1 W → Calls Tryz.prog 42 #[.agg #[.int .i64 m.id, .int .i64 m.arg, .int .u8 m.kind, .int .i64 m.n]] W fun e w' => e = .returned (.tuple #[.string T, .int .i64 0]) ∧ Below W.heap.size W w'))
    (T' : ByteArray) (k : Nat) (hTe : T.toList.isEmpty = false) (hTk : T.size = k + 1) (hk : k ≤ 1000) (hT' : T.extract 0 k = T') (o : Mv)
    (C43 : Hid (∀ W, Below w1.heap.size w1 W → Calls Tryz.prog 43 #[.string T] W fun e w' => e = .returned (.tuple #[.agg #[.int .i64 m.id, .int .i64 m.arg, .int .u8 m.kind, .int .i64 m.n], .int .i64 0]) ∧ Below W.heap.size W w'))
    (D43 : Hid (∀ W, Below w1.heap.size w1 W → Calls Tryz.prog 43 #[.string T'] W fun e w' => e = .returned (.tuple #[.agg #[.int .i64 o.id, .int .i64 o.arg, .int .u8 o.kind, .int .i64 o.n], .int .i64 4]) ∧ Below W.heap.size W w'))
    (hNE : ∀ W, (binOp .neq 40 (.agg #[.int .i64 m.id, .int .i64 m.arg, .int .u8 m.kind, .int .i64 m.n]) (.agg #[.int .i64 m.id, .int .i64 m.arg, .int .u8 m.kind, .int .i64 m.n])).run Tryz.prog W = .ok (.bool false) W)
    (g40 : Tryz.prog.eqGuardType Tryz.prog.depth 40 = false)
    (C17 : Hid (∀ W, Below w1.heap.size w1 W → Calls Tryz.prog 17 #[.agg #[.slice A n c, .bool r.cell, .int .i64 r.n, .bool ju]] W fun e w' => e = .returned (.bool true) ∧ Below W.heap.size W w'))
    (C25 : Hid (∀ W, Below w1.heap.size w1 W → Calls Tryz.prog 25 #[.agg #[.slice A n c, .bool r.cell, .int .i64 r.n, .bool ju]] W fun e w' => e = .returned (.int .i64 0) ∧ Below W.heap.size W w'))
    (C19 : Hid (∀ W, Below w1.heap.size w1 W → Calls Tryz.prog 19 #[.agg #[.slice A n c, .bool r.cell, .int .i64 r.n, .bool ju]] W fun e w' => ∃ A' c', e = .returned (.agg #[.slice A' n c', .bool r.cell, .int .i64 r.n, .bool ju]) ∧ Hid (TyIn w' w'.heap.size (.slice A' n c') ids) ∧ Below W.heap.size W w'))
    (S S' : ByteArray) (j : Nat) (hSe : S.toList.isEmpty = false) (hSj : S.size = j + 1) (hj : j ≤ 1000) (hS' : S.extract 0 j = S')
    (C22 : Hid (∀ W A' c', TyIn W W.heap.size (.slice A' n c') ids → Calls Tryz.prog 22 #[.agg #[.slice A' n c', .bool r.cell, .int .i64 r.n, .bool ju]] W fun e w' => e = .returned (.tuple #[.string S, .int .i64 0]) ∧ Below W.heap.size W w'))
    (C46 : Hid (∀ W, Laid W → Calls Tryz.prog 46 #[.string S] W fun e w' => ∃ A' c', e = .returned (.tuple #[.agg #[.slice A' n c', .bool r.cell, .int .i64 r.n, .bool ju], .int .i64 0]) ∧ Hid (TyIn w' w'.heap.size (.slice A' n c') ids) ∧ Below W.heap.size W w'))
    (n2 : Nat) (r2 : Bs) (j2 : Bool) (ids2 : List Ty) (D46 : Hid (∀ W, Laid W → Calls Tryz.prog 46 #[.string S'] W fun e w' => ∃ A' c', e = .returned (.tuple #[.agg #[.slice A' n2 c', .bool r2.cell, .int .i64 r2.n, .bool j2], .int .i64 0]) ∧ Hid (TyIn w' w'.heap.size (.slice A' n2 c') ids2) ∧ Below W.heap.size W w'))
    (C27 : Hid (∀ W A' c', Below w1.heap.size w1 W → TyIn W W.heap.size (.slice A' n c') ids → Calls Tryz.prog 27 #[.agg #[.slice A n c, .bool r.cell, .int .i64 r.n, .bool ju], .agg #[.slice A' n c', .bool r.cell, .int .i64 r.n, .bool ju]] W fun e w' => e = .returned (.bool true) ∧ Below W.heap.size W w'))
    (D27 : Hid (∀ W A' c', Below w1.heap.size w1 W → TyIn W W.heap.size (.slice A' n2 c') ids2 → Calls Tryz.prog 27 #[.agg #[.slice A n c, .bool r.cell, .int .i64 r.n, .bool ju], .agg #[.slice A' n2 c', .bool r2.cell, .int .i64 r2.n, .bool j2]] W fun e w' => e = .returned (.bool false) ∧ Below W.heap.size W w')) :
    Calls Tryz.prog 15 #[.agg #[.slice A n c, .bool r.cell, .int .i64 r.n, .bool ju], .agg #[.int .i64 m.id, .int .i64 m.arg, .int .u8 m.kind, .int .i64 m.n]] w fun e w' => e = .returned (.bool true) ∧ Below w.heap.size w w' := by
  obtain ⟨p0, p1, p2, p3⟩ := boxM_four (K1.out _ (Below.refl _ _))
  go_enter Tryz.func15, Tryz.ntmps15
  go_wp2_with (first
    | (go_at_call 42; ((with_reducible refine (C42.out _ (Below.refl _ _)).mono ?_); skip); rintro e w2 ⟨rfl, hb2⟩; have H2 : Hid (Below w1.heap.size w1 w2) := Lib.hid hb2)
    | (go_at_call 43; ((with_reducible refine (C43.out _ H2.out).mono ?_); skip); rintro e w3 ⟨rfl, hb3⟩; obtain ⟨z3, hz3⟩ : ∃ z3, w3.alloc (.cells #[.int .i64 m.id, .int .i64 m.arg, .int .u8 m.kind, .int .i64 m.n] 40) = z3 := ⟨_, rfl⟩; have H3 : Hid (Below w1.heap.size w1 z3) := Lib.hid (nm_box (nm_on H2.out hb3) hz3); have N3 : Hid (BoxM z3 w3.heap.size m) := Lib.hid (hz3 ▸ BoxM.new w3 m))
    | (go_at_call 43; ((with_reducible refine (D43.out _ H3.out).mono ?_); skip); rintro e w4 ⟨rfl, hb4⟩; obtain ⟨z4, hz4⟩ : ∃ z4, w4.alloc (.cells #[.int .i64 o.id, .int .i64 o.arg, .int .u8 o.kind, .int .i64 o.n] 40) = z4 := ⟨_, rfl⟩; have H4 : Hid (Below w1.heap.size w1 z4) := Lib.hid (nm_box (nm_on H3.out hb4) hz4); obtain ⟨qn0, qn1, qn2, qn3⟩ := boxM_four (boxM_at N3.out (nm_box hb4 hz4)); obtain ⟨m0, m1, m2, m3⟩ := boxM_four (K1.out _ H4.out); obtain ⟨o0, o1, o2, o3⟩ := boxM_four (show BoxM z4 w4.heap.size o from hz4 ▸ BoxM.new w4 o); obtain ⟨a0, a1, a2, a3⟩ := boxA_four (K0.out _ H4.out))
    | (go_at_call 17; ((with_reducible refine (C17.out _ H4.out).mono ?_); skip); rintro e w5 ⟨rfl, hb5⟩; have H5 : Hid (Below w1.heap.size w1 w5) := Lib.hid (nm_on H4.out hb5); obtain ⟨b0, b1, b2, b3⟩ := boxA_four (K0.out _ H5.out))
    | (go_at_call 25; ((with_reducible refine (C25.out _ H5.out).mono ?_); skip); rintro e w6 ⟨rfl, hb6⟩; have H6 : Hid (Below w1.heap.size w1 w6) := Lib.hid (nm_on H5.out hb6); obtain ⟨d0, d1, d2, d3⟩ := boxA_four (K0.out _ H6.out))
    | (go_at_call 19; ((with_reducible refine (C19.out _ H6.out).mono ?_); skip); rintro e w7 ⟨A7, c7, rfl, HT7, hb7⟩; have H7 : Hid (Below w1.heap.size w1 w7) := Lib.hid (nm_on H6.out hb7))
    | (go_at_call 22; ((with_reducible refine (C22.out _ A7 c7 HT7.out).mono ?_); skip); rintro e w8 ⟨rfl, hb8⟩; have H8 : Hid (Below w1.heap.size w1 w8) := Lib.hid (nm_on H7.out hb8))
    | (go_at_call 46; ((with_reducible refine (C46.out _ (LW.out _ H8.out)).mono ?_); skip); rintro e w9 ⟨A9, c9, rfl, HT, hb9⟩; obtain ⟨z9, hz9⟩ : ∃ z9, w9.alloc (.cells #[.slice A9 n c9, .bool r.cell, .int .i64 r.n, .bool ju] 26) = z9 := ⟨_, rfl⟩; have H9 : Hid (Below w1.heap.size w1 z9) := Lib.hid (nm_box (nm_on H8.out hb9) hz9); have HT9 : Hid (TyIn z9 z9.heap.size (.slice A9 n c9) ids) := Lib.hid (tyIn_later HT.out (nm_box (Below.refl _ _) hz9)); have N9 : Hid (BoxA z9 w9.heap.size (.slice A9 n c9) r ju) := Lib.hid (by rw [← hz9]; exact World.alloc_heap_new w9 _); clear HT)
    | (go_at_call 46; ((with_reducible refine (D46.out _ (LW.out _ H9.out)).mono ?_); skip); rintro e w10 ⟨A10, c10, rfl, HT, hb10⟩; obtain ⟨z10, hz10⟩ : ∃ z10, w10.alloc (.cells #[.slice A10 n2 c10, .bool r2.cell, .int .i64 r2.n, .bool j2] 26) = z10 := ⟨_, rfl⟩; have H10 : Hid (Below w1.heap.size w1 z10) := Lib.hid (nm_box (nm_on H9.out hb10) hz10); have HT10 : Hid (TyIn z10 z10.heap.size (.slice A10 n2 c10) ids2) := Lib.hid (tyIn_later HT.out (nm_box (Below.refl _ _) hz10)); have HU10 : Hid (TyIn z10 z10.heap.size (.slice A9 n c9) ids) := Lib.hid (tyIn_later HT9.out (nm_box hb10 hz10)); have N10 : Hid (BoxA z10 w10.heap.size (.slice A10 n2 c10) r2 j2) := Lib.hid (by rw [← hz10]; exact World.alloc_heap_new w10 _); clear HT; obtain ⟨e0, e1, e2, e3⟩ := boxA_four (K0.out _ H10.out); obtain ⟨f0, f1, f2, f3⟩ := boxA_four (boxA_at N9.out (nm_box hb10 hz10)))
    | (go_at_call 27; ((with_reducible refine (C27.out _ A9 c9 H10.out HU10.out).mono ?_); skip); rintro e w11 ⟨rfl, hb11⟩; have H11 : Hid (Below w1.heap.size w1 w11) := Lib.hid (nm_on H10.out hb11); have HT11 : Hid (TyIn w11 w11.heap.size (.slice A10 n2 c10) ids2) := Lib.hid (tyIn_later HT10.out hb11); obtain ⟨g0, g1, g2, g3⟩ := boxA_four (K0.out _ H11.out); obtain ⟨i0, i1, i2, i3⟩ := boxA_four (boxA_at N10.out hb11))
    | (go_at_call 27; ((with_reducible refine (D27.out _ A10 c10 H11.out HT11.out).mono ?_); skip); rintro e w12 ⟨rfl, hb12⟩; have H12 : Hid (Below w1.heap.size w1 w12) := Lib.hid (nm_on H11.out hb12))
    | (go_at_call 18; ((with_reducible refine (awake_any _ (LW.out _ H12.out)).mono ?_); skip); rintro e w20 ⟨rfl, hb20⟩; have H20 : Hid (Below w1.heap.size w1 _) := Lib.hid (nm_on H12.out hb20)))
  go_ret
  exact ⟨rfl, HB.out.trans (H20.out.mono HB.out.size)⟩

set_option maxRecDepth 100000 in
set_option maxHeartbeats 2000000 in
theorem law15_on (A : Option Addr) (n c : Nat) (r : Bs) (ju : Bool) (m : Mv) (w w1 : World)
    (hw1 : (w.alloc (.cells #[.slice A n c, .bool r.cell, .int .i64 r.n, .bool ju] 26)).alloc (.cells #[.int .i64 m.id, .int .i64 m.arg, .int .u8 m.kind, .int .i64 m.n] 40) = w1) (HB : Hid (Below w.heap.size w w1))
    (K0 : Hid (∀ W, Below w1.heap.size w1 W → BoxA W w.heap.size (.slice A n c) r ju)) (K1 : Hid (∀ W, Below w1.heap.size w1 W → BoxM W (w.heap.size + 1) m)) (LW : Hid (∀ W, Below w1.heap.size w1 W → Laid W))
    (T : ByteArray) (C42 : Hid (∀ W, Below w1.heap.size w1 W → Calls Tryz.prog 42 #[.agg #[.int .i64 m.id, .int .i64 m.arg, .int .u8 m.kind, .int .i64 m.n]] W fun e w' => e = .returned (.tuple #[.string T, .int .i64 0]) ∧ Below W.heap.size W w'))
    (T' : ByteArray) (k : Nat) (hTe : T.toList.isEmpty = false) (hTk : T.size = k + 1) (hk : k ≤ 1000) (hT' : T.extract 0 k = T') (o : Mv)
    (C43 : Hid (∀ W, Below w1.heap.size w1 W → Calls Tryz.prog 43 #[.string T] W fun e w' => e = .returned (.tuple #[.agg #[.int .i64 m.id, .int .i64 m.arg, .int .u8 m.kind, .int .i64 m.n], .int .i64 0]) ∧ Below W.heap.size W w'))
    (D43 : Hid (∀ W, Below w1.heap.size w1 W → Calls Tryz.prog 43 #[.string T'] W fun e w' => e = .returned (.tuple #[.agg #[.int .i64 o.id, .int .i64 o.arg, .int .u8 o.kind, .int .i64 o.n], .int .i64 0]) ∧ Below W.heap.size W w'))
    (hNE : ∀ W, (binOp .neq 40 (.agg #[.int .i64 m.id, .int .i64 m.arg, .int .u8 m.kind, .int .i64 m.n]) (.agg #[.int .i64 m.id, .int .i64 m.arg, .int .u8 m.kind, .int .i64 m.n])).run Tryz.prog W = .ok (.bool false) W)
    (hEQ : ∀ W, (binOp .eql 40 (.agg #[.int .i64 o.id, .int .i64 o.arg, .int .u8 o.kind, .int .i64 o.n]) (.agg #[.int .i64 m.id, .int .i64 m.arg, .int .u8 m.kind, .int .i64 m.n])).run Tryz.prog W = .ok (.bool false) W)
    (g40 : Tryz.prog.eqGuardType Tryz.prog.depth 40 = false)
    (C17 : Hid (∀ W, Below w1.heap.size w1 W → Calls Tryz.prog 17 #[.agg #[.slice A n c, .bool r.cell, .int .i64 r.n, .bool ju]] W fun e w' => e = .returned (.bool false) ∧ Below W.heap.size W w')) :
    Calls Tryz.prog 15 #[.agg #[.slice A n c, .bool r.cell, .int .i64 r.n, .bool ju], .agg #[.int .i64 m.id, .int .i64 m.arg, .int .u8 m.kind, .int .i64 m.n]] w fun e w' => e = .returned (.bool true) ∧ Below w.heap.size w w' := by
  obtain ⟨p0, p1, p2, p3⟩ := boxM_four (K1.out _ (Below.refl _ _))
  go_enter Tryz.func15, Tryz.ntmps15
  go_wp2_with (first
    | (go_at_call 42; ((with_reducible refine (C42.out _ (Below.refl _ _)).mono ?_); skip); rintro e w2 ⟨rfl, hb2⟩; have H2 : Hid (Below w1.heap.size w1 w2) := Lib.hid hb2)
    | (go_at_call 43; ((with_reducible refine (C43.out _ H2.out).mono ?_); skip); rintro e w3 ⟨rfl, hb3⟩; obtain ⟨z3, hz3⟩ : ∃ z3, w3.alloc (.cells #[.int .i64 m.id, .int .i64 m.arg, .int .u8 m.kind, .int .i64 m.n] 40) = z3 := ⟨_, rfl⟩; have H3 : Hid (Below w1.heap.size w1 z3) := Lib.hid (nm_box (nm_on H2.out hb3) hz3); have N3 : Hid (BoxM z3 w3.heap.size m) := Lib.hid (hz3 ▸ BoxM.new w3 m))
    | (go_at_call 43; ((with_reducible refine (D43.out _ H3.out).mono ?_); skip); rintro e w4 ⟨rfl, hb4⟩; obtain ⟨z4, hz4⟩ : ∃ z4, w4.alloc (.cells #[.int .i64 o.id, .int .i64 o.arg, .int .u8 o.kind, .int .i64 o.n] 40) = z4 := ⟨_, rfl⟩; have H4 : Hid (Below w1.heap.size w1 z4) := Lib.hid (nm_box (nm_on H3.out hb4) hz4); obtain ⟨qn0, qn1, qn2, qn3⟩ := boxM_four (boxM_at N3.out (nm_box hb4 hz4)); obtain ⟨m0, m1, m2, m3⟩ := boxM_four (K1.out _ H4.out); obtain ⟨o0, o1, o2, o3⟩ := boxM_four (show BoxM z4 w4.heap.size o from hz4 ▸ BoxM.new w4 o); obtain ⟨a0, a1, a2, a3⟩ := boxA_four (K0.out _ H4.out))
    | (go_at_call 17; ((with_reducible refine (C17.out _ H4.out).mono ?_); skip); rintro e w5 ⟨rfl, hb5⟩; have H5 : Hid (Below w1.heap.size w1 w5) := Lib.hid (nm_on H4.out hb5))
    | (go_at_call 18; ((with_reducible refine (awake_any _ (LW.out _ H5.out)).mono ?_); skip); rintro e w20 ⟨rfl, hb20⟩; have H20 : Hid (Below w1.heap.size w1 _) := Lib.hid (nm_on H5.out hb20)))
  go_ret
  exact ⟨rfl, HB.out.trans (H20.out.mono HB.out.size)⟩

set_option maxRecDepth 100000 in
set_option maxHeartbeats 2000000 in
theorem law15_oc (A : Option Addr) (n c : Nat) (r : Bs) (ju : Bool) (m : Mv) (w w1 : World)
    (hw1 : (w.alloc (.cells #[.slice A n c, .bool r.cell, .int .i64 r.n, .bool ju] 26)).alloc (.cells #[.int .i64 m.id, .int .i64 m.arg, .int .u8 m.kind, .int .i64 m.n] 40) = w1) (HB : Hid (Below w.heap.size w w1))
    (K0 : Hid (∀ W, Below w1.heap.size w1 W → BoxA W w.heap.size (.slice A n c) r ju)) (K1 : Hid (∀ W, Below w1.heap.size w1 W → BoxM W (w.heap.size + 1) m)) (LW : Hid (∀ W, Below w1.heap.size w1 W → Laid W))
    (T : ByteArray) (C42 : Hid (∀ W, Below w1.heap.size w1 W → Calls Tryz.prog 42 #[.agg #[.int .i64 m.id, .int .i64 m.arg, .int .u8 m.kind, .int .i64 m.n]] W fun e w' => e = .returned (.tuple #[.string T, .int .i64 0]) ∧ Below W.heap.size W w'))
    (T' : ByteArray) (k : Nat) (hTe : T.toList.isEmpty = false) (hTk : T.size = k + 1) (hk : k ≤ 1000) (hT' : T.extract 0 k = T') (o : Mv)
    (C43 : Hid (∀ W, Below w1.heap.size w1 W → Calls Tryz.prog 43 #[.string T] W fun e w' => e = .returned (.tuple #[.agg #[.int .i64 m.id, .int .i64 m.arg, .int .u8 m.kind, .int .i64 m.n], .int .i64 0]) ∧ Below W.heap.size W w'))
    (D43 : Hid (∀ W, Below w1.heap.size w1 W → Calls Tryz.prog 43 #[.string T'] W fun e w' => e = .returned (.tuple #[.agg #[.int .i64 o.id, .int .i64 o.arg, .int .u8 o.kind, .int .i64 o.n], .int .i64 0]) ∧ Below W.heap.size W w'))
    (hNE : ∀ W, (binOp .neq 40 (.agg #[.int .i64 m.id, .int .i64 m.arg, .int .u8 m.kind, .int .i64 m.n]) (.agg #[.int .i64 m.id, .int .i64 m.arg, .int .u8 m.kind, .int .i64 m.n])).run Tryz.prog W = .ok (.bool false) W)
    (hEQ : ∀ W, (binOp .eql 40 (.agg #[.int .i64 o.id, .int .i64 o.arg, .int .u8 o.kind, .int .i64 o.n]) (.agg #[.int .i64 m.id, .int .i64 m.arg, .int .u8 m.kind, .int .i64 m.n])).run Tryz.prog W = .ok (.bool false) W)
    (g40 : Tryz.prog.eqGuardType Tryz.prog.depth 40 = false)
    (C17 : Hid (∀ W, Below w1.heap.size w1 W → Calls Tryz.prog 17 #[.agg #[.slice A n c, .bool r.cell, .int .i64 r.n, .bool ju]] W fun e w' => e = .returned (.bool true) ∧ Below W.heap.size W w'))
    (ck : Int) (hck : (ck == 0) = false)
    (C25 : Hid (∀ W, Below w1.heap.size w1 W → Calls Tryz.prog 25 #[.agg #[.slice A n c, .bool r.cell, .int .i64 r.n, .bool ju]] W fun e w' => e = .returned (.int .i64 ck) ∧ Below W.heap.size W w')) :
    Calls Tryz.prog 15 #[.agg #[.slice A n c, .bool r.cell, .int .i64 r.n, .bool ju], .agg #[.int .i64 m.id, .int .i64 m.arg, .int .u8 m.kind, .int .i64 m.n]] w fun e w' => e = .returned (.bool true) ∧ Below w.heap.size w w' := by
  obtain ⟨p0, p1, p2, p3⟩ := boxM_four (K1.out _ (Below.refl _ _))
  go_enter Tryz.func15, Tryz.ntmps15
  go_wp2_with (first
    | (go_at_call 42; ((with_reducible refine (C42.out _ (Below.refl _ _)).mono ?_); skip); rintro e w2 ⟨rfl, hb2⟩; have H2 : Hid (Below w1.heap.size w1 w2) := Lib.hid hb2)
    | (go_at_call 43; ((with_reducible refine (C43.out _ H2.out).mono ?_); skip); rintro e w3 ⟨rfl, hb3⟩; obtain ⟨z3, hz3⟩ : ∃ z3, w3.alloc (.cells #[.int .i64 m.id, .int .i64 m.arg, .int .u8 m.kind, .int .i64 m.n] 40) = z3 := ⟨_, rfl⟩; have H3 : Hid (Below w1.heap.size w1 z3) := Lib.hid (nm_box (nm_on H2.out hb3) hz3); have N3 : Hid (BoxM z3 w3.heap.size m) := Lib.hid (hz3 ▸ BoxM.new w3 m))
    | (go_at_call 43; ((with_reducible refine (D43.out _ H3.out).mono ?_); skip); rintro e w4 ⟨rfl, hb4⟩; obtain ⟨z4, hz4⟩ : ∃ z4, w4.alloc (.cells #[.int .i64 o.id, .int .i64 o.arg, .int .u8 o.kind, .int .i64 o.n] 40) = z4 := ⟨_, rfl⟩; have H4 : Hid (Below w1.heap.size w1 z4) := Lib.hid (nm_box (nm_on H3.out hb4) hz4); obtain ⟨qn0, qn1, qn2, qn3⟩ := boxM_four (boxM_at N3.out (nm_box hb4 hz4)); obtain ⟨m0, m1, m2, m3⟩ := boxM_four (K1.out _ H4.out); obtain ⟨o0, o1, o2, o3⟩ := boxM_four (show BoxM z4 w4.heap.size o from hz4 ▸ BoxM.new w4 o); obtain ⟨a0, a1, a2, a3⟩ := boxA_four (K0.out _ H4.out))
    | (go_at_call 17; ((with_reducible refine (C17.out _ H4.out).mono ?_); skip); rintro e w5 ⟨rfl, hb5⟩; have H5 : Hid (Below w1.heap.size w1 w5) := Lib.hid (nm_on H4.out hb5); obtain ⟨b0, b1, b2, b3⟩ := boxA_four (K0.out _ H5.out))
    | (go_at_call 25; ((with_reducible refine (C25.out _ H5.out).mono ?_); skip); rintro e w6 ⟨rfl, hb6⟩; have H6 : Hid (Below w1.heap.size w1 w6) := Lib.hid (nm_on H5.out hb6))
    | (go_at_call 18; ((with_reducible refine (awake_any _ (LW.out _ H6.out)).mono ?_); skip); rintro e w20 ⟨rfl, hb20⟩; have H20 : Hid (Below w1.heap.size w1 _) := Lib.hid (nm_on H6.out hb20)))
  go_ret
  exact ⟨rfl, HB.out.trans (H20.out.mono HB.out.size)⟩

set_option maxRecDepth 100000 in
set_option maxHeartbeats 2000000 in
theorem law15_ox (A : Option Addr) (n c : Nat) (r : Bs) (ju : Bool) (ids : List Ty) (m : Mv) (w w1 : World)
    (hw1 : (w.alloc (.cells #[.slice A n c, .bool r.cell, .int .i64 r.n, .bool ju] 26)).alloc (.cells #[.int .i64 m.id, .int .i64 m.arg, .int .u8 m.kind, .int .i64 m.n] 40) = w1) (HB : Hid (Below w.heap.size w w1))
    (K0 : Hid (∀ W, Below w1.heap.size w1 W → BoxA W w.heap.size (.slice A n c) r ju)) (K1 : Hid (∀ W, Below w1.heap.size w1 W → BoxM W (w.heap.size + 1) m)) (LW : Hid (∀ W, Below w1.heap.size w1 W → Laid W))
    (T : ByteArray) (C42 : Hid (∀ W, Below w1.heap.size w1 W → Calls Tryz.prog 42 #[.agg #[.int .i64 m.id, .int .i64 m.arg, .int .u8 m.kind, .int .i64 m.n]] W fun e w' => e = .returned (.tuple #[.string T, .int .i64 0]) ∧ Below W.heap.size W w'))
    (T' : ByteArray) (k : Nat) (hTe : T.toList.isEmpty = false) (hTk : T.size = k + 1) (hk : k ≤ 1000) (hT' : T.extract 0 k = T') (o : Mv)
    (C43 : Hid (∀ W, Below w1.heap.size w1 W → Calls Tryz.prog 43 #[.string T] W fun e w' => e = .returned (.tuple #[.agg #[.int .i64 m.id, .int .i64 m.arg, .int .u8 m.kind, .int .i64 m.n], .int .i64 0]) ∧ Below W.heap.size W w'))
    (D43 : Hid (∀ W, Below w1.heap.size w1 W → Calls Tryz.prog 43 #[.string T'] W fun e w' => e = .returned (.tuple #[.agg #[.int .i64 o.id, .int .i64 o.arg, .int .u8 o.kind, .int .i64 o.n], .int .i64 0]) ∧ Below W.heap.size W w'))
    (hNE : ∀ W, (binOp .neq 40 (.agg #[.int .i64 m.id, .int .i64 m.arg, .int .u8 m.kind, .int .i64 m.n]) (.agg #[.int .i64 m.id, .int .i64 m.arg, .int .u8 m.kind, .int .i64 m.n])).run Tryz.prog W = .ok (.bool false) W)
    (hEQ : ∀ W, (binOp .eql 40 (.agg #[.int .i64 o.id, .int .i64 o.arg, .int .u8 o.kind, .int .i64 o.n]) (.agg #[.int .i64 m.id, .int .i64 m.arg, .int .u8 m.kind, .int .i64 m.n])).run Tryz.prog W = .ok (.bool false) W)
    (g40 : Tryz.prog.eqGuardType Tryz.prog.depth 40 = false)
    (C17 : Hid (∀ W, Below w1.heap.size w1 W → Calls Tryz.prog 17 #[.agg #[.slice A n c, .bool r.cell, .int .i64 r.n, .bool ju]] W fun e w' => e = .returned (.bool true) ∧ Below W.heap.size W w'))
    (C25 : Hid (∀ W, Below w1.heap.size w1 W → Calls Tryz.prog 25 #[.agg #[.slice A n c, .bool r.cell, .int .i64 r.n, .bool ju]] W fun e w' => e = .returned (.int .i64 0) ∧ Below W.heap.size W w'))
    (C19 : Hid (∀ W, Below w1.heap.size w1 W → Calls Tryz.prog 19 #[.agg #[.slice A n c, .bool r.cell, .int .i64 r.n, .bool ju]] W fun e w' => ∃ A' c', e = .returned (.agg #[.slice A' n c', .bool r.cell, .int .i64 r.n, .bool ju]) ∧ Hid (TyIn w' w'.heap.size (.slice A' n c') ids) ∧ Below W.heap.size W w'))
    (S S' : ByteArray) (j : Nat) (hSe : S.toList.isEmpty = false) (hSj : S.size = j + 1) (hj : j ≤ 1000) (hS' : S.extract 0 j = S')
    (C22 : Hid (∀ W A' c', TyIn W W.heap.size (.slice A' n c') ids → Calls Tryz.prog 22 #[.agg #[.slice A' n c', .bool r.cell, .int .i64 r.n, .bool ju]] W fun e w' => e = .returned (.tuple #[.string S, .int .i64 0]) ∧ Below W.heap.size W w'))
    (C46 : Hid (∀ W, Laid W → Calls Tryz.prog 46 #[.string S] W fun e w' => ∃ A' c', e = .returned (.tuple #[.agg #[.slice A' n c', .bool r.cell, .int .i64 r.n, .bool ju], .int .i64 0]) ∧ Hid (TyIn w' w'.heap.size (.slice A' n c') ids) ∧ Below W.heap.size W w'))
    (n2 : Nat) (r2 : Bs) (j2 : Bool) (ids2 : List Ty) (D46 : Hid (∀ W, Laid W → Calls Tryz.prog 46 #[.string S'] W fun e w' => ∃ A' c', e = .returned (.tuple #[.agg #[.slice A' n2 c', .bool r2.cell, .int .i64 r2.n, .bool j2], .int .i64 4]) ∧ Hid (TyIn w' w'.heap.size (.slice A' n2 c') ids2) ∧ Below W.heap.size W w'))
    (C27 : Hid (∀ W A' c', Below w1.heap.size w1 W → TyIn W W.heap.size (.slice A' n c') ids → Calls Tryz.prog 27 #[.agg #[.slice A n c, .bool r.cell, .int .i64 r.n, .bool ju], .agg #[.slice A' n c', .bool r.cell, .int .i64 r.n, .bool ju]] W fun e w' => e = .returned (.bool true) ∧ Below W.heap.size W w')) :
    Calls Tryz.prog 15 #[.agg #[.slice A n c, .bool r.cell, .int .i64 r.n, .bool ju], .agg #[.int .i64 m.id, .int .i64 m.arg, .int .u8 m.kind, .int .i64 m.n]] w fun e w' => e = .returned (.bool true) ∧ Below w.heap.size w w' := by
  obtain ⟨p0, p1, p2, p3⟩ := boxM_four (K1.out _ (Below.refl _ _))
  go_enter Tryz.func15, Tryz.ntmps15
  go_wp2_with (first
    | (go_at_call 42; ((with_reducible refine (C42.out _ (Below.refl _ _)).mono ?_); skip); rintro e w2 ⟨rfl, hb2⟩; have H2 : Hid (Below w1.heap.size w1 w2) := Lib.hid hb2)
    | (go_at_call 43; ((with_reducible refine (C43.out _ H2.out).mono ?_); skip); rintro e w3 ⟨rfl, hb3⟩; obtain ⟨z3, hz3⟩ : ∃ z3, w3.alloc (.cells #[.int .i64 m.id, .int .i64 m.arg, .int .u8 m.kind, .int .i64 m.n] 40) = z3 := ⟨_, rfl⟩; have H3 : Hid (Below w1.heap.size w1 z3) := Lib.hid (nm_box (nm_on H2.out hb3) hz3); have N3 : Hid (BoxM z3 w3.heap.size m) := Lib.hid (hz3 ▸ BoxM.new w3 m))
    | (go_at_call 43; ((with_reducible refine (D43.out _ H3.out).mono ?_); skip); rintro e w4 ⟨rfl, hb4⟩; obtain ⟨z4, hz4⟩ : ∃ z4, w4.alloc (.cells #[.int .i64 o.id, .int .i64 o.arg, .int .u8 o.kind, .int .i64 o.n] 40) = z4 := ⟨_, rfl⟩; have H4 : Hid (Below w1.heap.size w1 z4) := Lib.hid (nm_box (nm_on H3.out hb4) hz4); obtain ⟨qn0, qn1, qn2, qn3⟩ := boxM_four (boxM_at N3.out (nm_box hb4 hz4)); obtain ⟨m0, m1, m2, m3⟩ := boxM_four (K1.out _ H4.out); obtain ⟨o0, o1, o2, o3⟩ := boxM_four (show BoxM z4 w4.heap.size o from hz4 ▸ BoxM.new w4 o); obtain ⟨a0, a1, a2, a3⟩ := boxA_four (K0.out _ H4.out))
    | (go_at_call 17; ((with_reducible refine (C17.out _ H4.out).mono ?_); skip); rintro e w5 ⟨rfl, hb5⟩; have H5 : Hid (Below w1.heap.size w1 w5) := Lib.hid (nm_on H4.out hb5); obtain ⟨b0, b1, b2, b3⟩ := boxA_four (K0.out _ H5.out))
    | (go_at_call 25; ((with_reducible refine (C25.out _ H5.out).mono ?_); skip); rintro e w6 ⟨rfl, hb6⟩; have H6 : Hid (Below w1.heap.size w1 w6) := Lib.hid (nm_on H5.out hb6); obtain ⟨d0, d1, d2, d3⟩ := boxA_four (K0.out _ H6.out))
    | (go_at_call 19; ((with_reducible refine (C19.out _ H6.out).mono ?_); skip); rintro e w7 ⟨A7, c7, rfl, HT7, hb7⟩; have H7 : Hid (Below w1.heap.size w1 w7) := Lib.hid (nm_on H6.out hb7))
    | (go_at_call 22; ((with_reducible refine (C22.out _ A7 c7 HT7.out).mono ?_); skip); rintro e w8 ⟨rfl, hb8⟩; have H8 : Hid (Below w1.heap.size w1 w8) := Lib.hid (nm_on H7.out hb8))
    | (go_at_call 46; ((with_reducible refine (C46.out _ (LW.out _ H8.out)).mono ?_); skip); rintro e w9 ⟨A9, c9, rfl, HT, hb9⟩; obtain ⟨z9, hz9⟩ : ∃ z9, w9.alloc (.cells #[.slice A9 n c9, .bool r.cell, .int .i64 r.n, .bool ju] 26) = z9 := ⟨_, rfl⟩; have H9 : Hid (Below w1.heap.size w1 z9) := Lib.hid (nm_box (nm_on H8.out hb9) hz9); have HT9 : Hid (TyIn z9 z9.heap.size (.slice A9 n c9) ids) := Lib.hid (tyIn_later HT.out (nm_box (Below.refl _ _) hz9)); have N9 : Hid (BoxA z9 w9.heap.size (.slice A9 n c9) r ju) := Lib.hid (by rw [← hz9]; exact World.alloc_heap_new w9 _); clear HT)
    | (go_at_call 46; ((with_reducible refine (D46.out _ (LW.out _ H9.out)).mono ?_); skip); rintro e w10 ⟨A10, c10, rfl, HT, hb10⟩; obtain ⟨z10, hz10⟩ : ∃ z10, w10.alloc (.cells #[.slice A10 n2 c10, .bool r2.cell, .int .i64 r2.n, .bool j2] 26) = z10 := ⟨_, rfl⟩; have H10 : Hid (Below w1.heap.size w1 z10) := Lib.hid (nm_box (nm_on H9.out hb10) hz10); have HT10 : Hid (TyIn z10 z10.heap.size (.slice A10 n2 c10) ids2) := Lib.hid (tyIn_later HT.out (nm_box (Below.refl _ _) hz10)); have HU10 : Hid (TyIn z10 z10.heap.size (.slice A9 n c9) ids) := Lib.hid (tyIn_later HT9.out (nm_box hb10 hz10)); have N10 : Hid (BoxA z10 w10.heap.size (.slice A10 n2 c10) r2 j2) := Lib.hid (by rw [← hz10]; exact World.alloc_heap_new w10 _); clear HT; obtain ⟨e0, e1, e2, e3⟩ := boxA_four (K0.out _ H10.out); obtain ⟨f0, f1, f2, f3⟩ := boxA_four (boxA_at N9.out (nm_box hb10 hz10)))
    | (go_at_call 27; ((with_reducible refine (C27.out _ A9 c9 H10.out HU10.out).mono ?_); skip); rintro e w11 ⟨rfl, hb11⟩; have H11 : Hid (Below w1.heap.size w1 w11) := Lib.hid (nm_on H10.out hb11))
    | (go_at_call 18; ((with_reducible refine (awake_any _ (LW.out _ H11.out)).mono ?_); skip); rintro e w20 ⟨rfl, hb20⟩; have H20 : Hid (Below w1.heap.size w1 _) := Lib.hid (nm_on H11.out hb20)))
  go_ret
  exact ⟨rfl, HB.out.trans (H20.out.mono HB.out.size)⟩

set_option maxRecDepth 100000 in
set_option maxHeartbeats 2000000 in
theorem law15_oy (A : Option Addr) (n c : Nat) (r : Bs) (ju : Bool) (ids : List Ty) (m : Mv) (w w1 : World)
    (hw1 : (w.alloc (.cells #[.slice A n c, .bool r.cell, .int .i64 r.n, .bool ju] 26)).alloc (.cells #[.int .i64 m.id, .int .i64 m.arg, .int .u8 m.kind, .int .i64 m.n] 40) = w1) (HB : Hid (Below w.heap.size w w1))
    (K0 : Hid (∀ W, Below w1.heap.size w1 W → BoxA W w.heap.size (.slice A n c) r ju)) (K1 : Hid (∀ W, Below w1.heap.size w1 W → BoxM W (w.heap.size + 1) m)) (LW : Hid (∀ W, Below w1.heap.size w1 W → Laid W))
    (T : ByteArray) (C42 : Hid (∀ W, Below w1.heap.size w1 W → Calls Tryz.prog 42 #[.agg #[.int .i64 m.id, .int .i64 m.arg, .int .u8 m.kind, .int .i64 m.n]] W fun e w' => e = .returned (.tuple #[.string T, .int .i64 0]) ∧ Below W.heap.size W w'))
    (T' : ByteArray) (k : Nat) (hTe : T.toList.isEmpty = false) (hTk : T.size = k + 1) (hk : k ≤ 1000) (hT' : T.extract 0 k = T') (o : Mv)
    (C43 : Hid (∀ W, Below w1.heap.size w1 W → Calls Tryz.prog 43 #[.string T] W fun e w' => e = .returned (.tuple #[.agg #[.int .i64 m.id, .int .i64 m.arg, .int .u8 m.kind, .int .i64 m.n], .int .i64 0]) ∧ Below W.heap.size W w'))
    (D43 : Hid (∀ W, Below w1.heap.size w1 W → Calls Tryz.prog 43 #[.string T'] W fun e w' => e = .returned (.tuple #[.agg #[.int .i64 o.id, .int .i64 o.arg, .int .u8 o.kind, .int .i64 o.n], .int .i64 0]) ∧ Below W.heap.size W w'))
    (hNE : ∀ W, (binOp .neq 40 (.agg #[.int .i64 m.id, .int .i64 m.arg, .int .u8 m.kind, .int .i64 m.n]) (.agg #[.int .i64 m.id, .int .i64 m.arg, .int .u8 m.kind, .int .i64 m.n])).run Tryz.prog W = .ok (.bool false) W)
    (hEQ : ∀ W, (binOp .eql 40 (.agg #[.int .i64 o.id, .int .i64 o.arg, .int .u8 o.kind, .int .i64 o.n]) (.agg #[.int .i64 m.id, .int .i64 m.arg, .int .u8 m.kind, .int .i64 m.n])).run Tryz.prog W = .ok (.bool false) W)
    (g40 : Tryz.prog.eqGuardType Tryz.prog.depth 40 = false)
    (C17 : Hid (∀ W, Below w1.heap.size w1 W → Calls Tryz.prog 17 #[.agg #[.slice A n c, .bool r.cell, .int .i64 r.n, .bool ju]] W fun e w' => e = .returned (.bool true) ∧ Below W.heap.size W w'))
    (C25 : Hid (∀ W, Below w1.heap.size w1 W → Calls Tryz.prog 25 #[.agg #[.slice A n c, .bool r.cell, .int .i64 r.n, .bool ju]] W fun e w' => e = .returned (.int .i64 0) ∧ Below W.heap.size W w'))
    (C19 : Hid (∀ W, Below w1.heap.size w1 W → Calls Tryz.prog 19 #[.agg #[.slice A n c, .bool r.cell, .int .i64 r.n, .bool ju]] W fun e w' => ∃ A' c', e = .returned (.agg #[.slice A' n c', .bool r.cell, .int .i64 r.n, .bool ju]) ∧ Hid (TyIn w' w'.heap.size (.slice A' n c') ids) ∧ Below W.heap.size W w'))
    (S S' : ByteArray) (j : Nat) (hSe : S.toList.isEmpty = false) (hSj : S.size = j + 1) (hj : j ≤ 1000) (hS' : S.extract 0 j = S')
    (C22 : Hid (∀ W A' c', TyIn W W.heap.size (.slice A' n c') ids → Calls Tryz.prog 22 #[.agg #[.slice A' n c', .bool r.cell, .int .i64 r.n, .bool ju]] W fun e w' => e = .returned (.tuple #[.string S, .int .i64 0]) ∧ Below W.heap.size W w'))
    (C46 : Hid (∀ W, Laid W → Calls Tryz.prog 46 #[.string S] W fun e w' => ∃ A' c', e = .returned (.tuple #[.agg #[.slice A' n c', .bool r.cell, .int .i64 r.n, .bool ju], .int .i64 0]) ∧ Hid (TyIn w' w'.heap.size (.slice A' n c') ids) ∧ Below W.heap.size W w'))
    (n2 : Nat) (r2 : Bs) (j2 : Bool) (ids2 : List Ty) (D46 : Hid (∀ W, Laid W → Calls Tryz.prog 46 #[.string S'] W fun e w' => ∃ A' c', e = .returned (.tuple #[.agg #[.slice A' n2 c', .bool r2.cell, .int .i64 r2.n, .bool j2], .int .i64 0]) ∧ Hid (TyIn w' w'.heap.size (.slice A' n2 c') ids2) ∧ Below W.heap.size W w'))
    (C27 : Hid (∀ W A' c', Below w1.heap.size w1 W → TyIn W W.heap.size (.slice A' n c') ids → Calls Tryz.prog 27 #[.agg #[.slice A n c, .bool r.cell, .int .i64 r.n, .bool ju], .agg #[.slice A' n c', .bool r.cell, .int .i64 r.n, .bool ju]] W fun e w' => e = .returned (.bool true) ∧ Below W.heap.size W w'))
    (D27 : Hid (∀ W A' c', Below w1.heap.size w1 W → TyIn W W.heap.size (.slice A' n2 c') ids2 → Calls Tryz.prog 27 #[.agg #[.slice A n c, .bool r.cell, .int .i64 r.n, .bool ju], .agg #[.slice A' n2 c', .bool r2.cell, .int .i64 r2.n, .bool j2]] W fun e w' => e = .returned (.bool false) ∧ Below W.heap.size W w')) :
    Calls Tryz.prog 15 #[.agg #[.slice A n c, .bool r.cell, .int .i64 r.n, .bool ju], .agg #[.int .i64 m.id, .int .i64 m.arg, .int .u8 m.kind, .int .i64 m.n]] w fun e w' => e = .returned (.bool true) ∧ Below w.heap.size w w' := by
  obtain ⟨p0, p1, p2, p3⟩ := boxM_four (K1.out _ (Below.refl _ _))
  go_enter Tryz.func15, Tryz.ntmps15
  go_wp2_with (first
    | (go_at_call 42; ((with_reducible refine (C42.out _ (Below.refl _ _)).mono ?_); skip); rintro e w2 ⟨rfl, hb2⟩; have H2 : Hid (Below w1.heap.size w1 w2) := Lib.hid hb2)
    | (go_at_call 43; ((with_reducible refine (C43.out _ H2.out).mono ?_); skip); rintro e w3 ⟨rfl, hb3⟩; obtain ⟨z3, hz3⟩ : ∃ z3, w3.alloc (.cells #[.int .i64 m.id, .int .i64 m.arg, .int .u8 m.kind, .int .i64 m.n] 40) = z3 := ⟨_, rfl⟩; have H3 : Hid (Below w1.heap.size w1 z3) := Lib.hid (nm_box (nm_on H2.out hb3) hz3); have N3 : Hid (BoxM z3 w3.heap.size m) := Lib.hid (hz3 ▸ BoxM.new w3 m))
    | (go_at_call 43; ((with_reducible refine (D43.out _ H3.out).mono ?_); skip); rintro e w4 ⟨rfl, hb4⟩; obtain ⟨z4, hz4⟩ : ∃ z4, w4.alloc (.cells #[.int .i64 o.id, .int .i64 o.arg, .int .u8 o.kind, .int .i64 o.n] 40) = z4 := ⟨_, rfl⟩; have H4 : Hid (Below w1.heap.size w1 z4) := Lib.hid (nm_box (nm_on H3.out hb4) hz4); obtain ⟨qn0, qn1, qn2, qn3⟩ := boxM_four (boxM_at N3.out (nm_box hb4 hz4)); obtain ⟨m0, m1, m2, m3⟩ := boxM_four (K1.out _ H4.out); obtain ⟨o0, o1, o2, o3⟩ := boxM_four (show BoxM z4 w4.heap.size o from hz4 ▸ BoxM.new w4 o); obtain ⟨a0, a1, a2, a3⟩ := boxA_four (K0.out _ H4.out))
    | (go_at_call 17; ((with_reducible refine (C17.out _ H4.out).mono ?_); skip); rintro e w5 ⟨rfl, hb5⟩; have H5 : Hid (Below w1.heap.size w1 w5) := Lib.hid (nm_on H4.out hb5); obtain ⟨b0, b1, b2, b3⟩ := boxA_four (K0.out _ H5.out))
    | (go_at_call 25; ((with_reducible refine (C25.out _ H5.out).mono ?_); skip); rintro e w6 ⟨rfl, hb6⟩; have H6 : Hid (Below w1.heap.size w1 w6) := Lib.hid (nm_on H5.out hb6); obtain ⟨d0, d1, d2, d3⟩ := boxA_four (K0.out _ H6.out))
    | (go_at_call 19; ((with_reducible refine (C19.out _ H6.out).mono ?_); skip); rintro e w7 ⟨A7, c7, rfl, HT7, hb7⟩; have H7 : Hid (Below w1.heap.size w1 w7) := Lib.hid (nm_on H6.out hb7))
    | (go_at_call 22; ((with_reducible refine (C22.out _ A7 c7 HT7.out).mono ?_); skip); rintro e w8 ⟨rfl, hb8⟩; have H8 : Hid (Below w1.heap.size w1 w8) := Lib.hid (nm_on H7.out hb8))
    | (go_at_call 46; ((with_reducible refine (C46.out _ (LW.out _ H8.out)).mono ?_); skip); rintro e w9 ⟨A9, c9, rfl, HT, hb9⟩; obtain ⟨z9, hz9⟩ : ∃ z9, w9.alloc (.cells #[.slice A9 n c9, .bool r.cell, .int .i64 r.n, .bool ju] 26) = z9 := ⟨_, rfl⟩; have H9 : Hid (Below w1.heap.size w1 z9) := Lib.hid (nm_box (nm_on H8.out hb9) hz9); have HT9 : Hid (TyIn z9 z9.heap.size (.slice A9 n c9) ids) := Lib.hid (tyIn_later HT.out (nm_box (Below.refl _ _) hz9)); have N9 : Hid (BoxA z9 w9.heap.size (.slice A9 n c9) r ju) := Lib.hid (by rw [← hz9]; exact World.alloc_heap_new w9 _); clear HT)
    | (go_at_call 46; ((with_reducible refine (D46.out _ (LW.out _ H9.out)).mono ?_); skip); rintro e w10 ⟨A10, c10, rfl, HT, hb10⟩; obtain ⟨z10, hz10⟩ : ∃ z10, w10.alloc (.cells #[.slice A10 n2 c10, .bool r2.cell, .int .i64 r2.n, .bool j2] 26) = z10 := ⟨_, rfl⟩; have H10 : Hid (Below w1.heap.size w1 z10) := Lib.hid (nm_box (nm_on H9.out hb10) hz10); have HT10 : Hid (TyIn z10 z10.heap.size (.slice A10 n2 c10) ids2) := Lib.hid (tyIn_later HT.out (nm_box (Below.refl _ _) hz10)); have HU10 : Hid (TyIn z10 z10.heap.size (.slice A9 n c9) ids) := Lib.hid (tyIn_later HT9.out (nm_box hb10 hz10)); have N10 : Hid (BoxA z10 w10.heap.size (.slice A10 n2 c10) r2 j2) := Lib.hid (by rw [← hz10]; exact World.alloc_heap_new w10 _); clear HT; obtain ⟨e0, e1, e2, e3⟩ := boxA_four (K0.out _ H10.out); obtain ⟨f0, f1, f2, f3⟩ := boxA_four (boxA_at N9.out (nm_box hb10 hz10)))
    | (go_at_call 27; ((with_reducible refine (C27.out _ A9 c9 H10.out HU10.out).mono ?_); skip); rintro e w11 ⟨rfl, hb11⟩; have H11 : Hid (Below w1.heap.size w1 w11) := Lib.hid (nm_on H10.out hb11); have HT11 : Hid (TyIn w11 w11.heap.size (.slice A10 n2 c10) ids2) := Lib.hid (tyIn_later HT10.out hb11); obtain ⟨g0, g1, g2, g3⟩ := boxA_four (K0.out _ H11.out); obtain ⟨i0, i1, i2, i3⟩ := boxA_four (boxA_at N10.out hb11))
    | (go_at_call 27; ((with_reducible refine (D27.out _ A10 c10 H11.out HT11.out).mono ?_); skip); rintro e w12 ⟨rfl, hb12⟩; have H12 : Hid (Below w1.heap.size w1 w12) := Lib.hid (nm_on H11.out hb12))
    | (go_at_call 18; ((with_reducible refine (awake_any _ (LW.out _ H12.out)).mono ?_); skip); rintro e w20 ⟨rfl, hb20⟩; have H20 : Hid (Below w1.heap.size w1 _) := Lib.hid (nm_on H12.out hb20)))
  go_ret
  exact ⟨rfl, HB.out.trans (H20.out.mono HB.out.size)⟩

set_option maxRecDepth 100000 in
set_option maxHeartbeats 2000000 in
theorem pre15 (m : Mv) (w w1 : World) (h : Laid w) (ht : Tab w) (hb : Below w.heap.size w w1) (c1 : inI64 m.id) (c2 : inI64 m.arg) (c3 : inI64 m.n) :
    (∃ T, Hid (∀ W, Below w1.heap.size w1 W → Calls Tryz.prog 42 #[.agg #[.int .i64 m.id, .int .i64 m.arg, .int .u8 m.kind, .int .i64 m.n]] W fun e w' => e = .returned (.tuple #[.string T, .int .i64 4]) ∧ Below W.heap.size W w')) ∨ (∃ (T T' : ByteArray) (k : Nat) (o : Mv), Hid (∀ W, Below w1.heap.size w1 W → Calls Tryz.prog 42 #[.agg #[.int .i64 m.id, .int .i64 m.arg, .int .u8 m.kind, .int .i64 m.n]] W fun e w' => e = .returned (.tuple #[.string T, .int .i64 0]) ∧ Below W.heap.size W w') ∧ T.toList.isEmpty = false ∧ T.size = k + 1 ∧ k ≤ 1000 ∧ T.extract 0 k = T' ∧ Hid (∀ W, Below w1.heap.size w1 W → Calls Tryz.prog 43 #[.string T] W fun e w' => e = .returned (.tuple #[.agg #[.int .i64 m.id, .int .i64 m.arg, .int .u8 m.kind, .int .i64 m.n], .int .i64 0]) ∧ Below W.heap.size W w') ∧ (Hid (∀ W, Below w1.heap.size w1 W → Calls Tryz.prog 43 #[.string T'] W fun e w' => e = .returned (.tuple #[.agg #[.int .i64 o.id, .int .i64 o.arg, .int .u8 o.kind, .int .i64 o.n], .int .i64 4]) ∧ Below W.heap.size W w') ∨ (Hid (∀ W, Below w1.heap.size w1 W → Calls Tryz.prog 43 #[.string T'] W fun e w' => e = .returned (.tuple #[.agg #[.int .i64 o.id, .int .i64 o.arg, .int .u8 o.kind, .int .i64 o.n], .int .i64 0]) ∧ Below W.heap.size W w') ∧ (∀ W, (binOp .eql 40 (.agg #[.int .i64 o.id, .int .i64 o.arg, .int .u8 o.kind, .int .i64 o.n]) (.agg #[.int .i64 m.id, .int .i64 m.arg, .int .u8 m.kind, .int .i64 m.n])).run Tryz.prog W = .ok (.bool false) W))) ∧ (∀ W, (binOp .neq 40 (.agg #[.int .i64 m.id, .int .i64 m.arg, .int .u8 m.kind, .int .i64 m.n]) (.agg #[.int .i64 m.id, .int .i64 m.arg, .int .u8 m.kind, .int .i64 m.n])).run Tryz.prog W = .ok (.bool false) W)) := by
  have LW : ∀ W, Below w1.heap.size w1 W → Laid W := fun W hW => h.later (nm_on hb hW)
  have TW : ∀ W, Below w1.heap.size w1 W → Tab W := fun W hW => ht.later (nm_on hb hW)
  obtain ⟨⟨T, te⟩, hT⟩ : ∃ R, textRes itx m = R := ⟨_, rfl⟩
  have C42 : Hid (∀ W, Below w1.heap.size w1 W → Calls Tryz.prog 42 #[.agg #[.int .i64 m.id, .int .i64 m.arg, .int .u8 m.kind, .int .i64 m.n]] W fun e w' => e = .returned (.tuple #[.string T, .int .i64 te]) ∧ Below W.heap.size W w') := Lib.hid fun W hW => by
    have hTb := TW W hW
    have := text_any itx m W (itoa_at W hTb _ c1) (itoa_at W hTb _ c2) (itoa_at W hTb _ c3) (itx_any _ c1) (itx_any _ c2) (itx_any _ c3)
    rw [hT] at this
    exact this
  have hte := text_err m
  rw [hT] at hte
  rcases hte with e | e
  · have e : te = 0 := e
    subst e
    obtain ⟨l1, l2⟩ := text_len hT c1.2 c2.2 c3.2
    obtain ⟨k, hk⟩ : ∃ k, T.size = k + 1 := ⟨T.size - 1, by omega⟩
    have hsz : (T.extract 0 k).size ≤ 1000 := by rw [ByteArray.size_extract]; omega
    refine .inr ⟨T, T.extract 0 k, k, (refParse (T.extract 0 k)).1, C42, not_empty hk, hk, by omega, rfl, Lib.hid (fun W hW => ?_), ?_, fun W => ?_⟩
    · have := parse_any itx T W (refParse T) (any_fits T W (LW W hW) (TW W hW) (by omega)) (fun i _ hi => prog_reads hi) (fun hn => ref_reads hn)
      rw [parse_back hT c1.2 c2.2 c3.2] at this
      exact this
    · have D : ∀ W, Below w1.heap.size w1 W → Calls Tryz.prog 43 #[.string (T.extract 0 k)] W fun e w' => e = .returned (.tuple #[mvV (refParse (T.extract 0 k)).1, .int .i64 (refParse (T.extract 0 k)).2]) ∧ Below W.heap.size W w' := fun W hW =>
        parse_any itx (T.extract 0 k) W (refParse (T.extract 0 k)) (any_fits _ W (LW W hW) (TW W hW) hsz) (fun i _ hi => prog_reads hi) (fun hn => ref_reads hn)
      rcases parse_err (T.extract 0 k) with e2 | e2
      · refine .inr ⟨Lib.hid (fun W hW => by have := D W hW; rw [e2] at this; exact this), fun W => ?_⟩
        have hne : (refParse (T.extract 0 k)).1 ≠ m := fun e3 => by
          have h2 := parse_text e2
          rw [e3, hT] at h2
          exact cut_ne hk (Prod.mk.inj h2).1.symm
        have := eq40 W (refParse (T.extract 0 k)).1 m
        rw [decide_eq_false hne] at this
        exact this
      · exact .inl (Lib.hid (fun W hW => by have := D W hW; rw [e2] at this; exact this))
    · have := ne40 W m m
      rw [decide_eq_true rfl] at this
      exact this
  · have e : te = 4 := e
    subst e
    exact .inl ⟨T, C42⟩

set_option maxRecDepth 100000 in
set_option maxHeartbeats 2000000 in
theorem law15_any (iv : Value) (a : Ar) (m : Mv) (w : World) (h : Laid w) (ht : Tab w) (hv : TyIn w w.heap.size iv a.ids) (c1 : inI64 m.id) (c2 : inI64 m.arg) (c3 : inI64 m.n) :
    Calls Tryz.prog 15 #[arV iv a.root a.jumps, mvV m] w fun e w' => e = .returned (.bool true) ∧ Below w.heap.size w w' := by
  obtain ⟨A, c, rfl⟩ := tyIn_slice hv
  obtain ⟨w1, hw1⟩ : ∃ w1, (w.alloc (.cells #[.slice A a.ids.length c, .bool a.root.cell, .int .i64 a.root.n, .bool a.jumps] 26)).alloc (.cells #[.int .i64 m.id, .int .i64 m.arg, .int .u8 m.kind, .int .i64 m.n] 40) = w1 := ⟨_, rfl⟩
  have hb : Below w.heap.size w w1 := by rw [← hw1]; exact ((Below.refl _ w).alloc (Nat.le_refl _) _).alloc (by simp) _
  have x0 : BoxA w1 w.heap.size (.slice A a.ids.length c) a.root a.jumps := by rw [← hw1]; exact (Below.heap_alloc _ _ _ (by simp)).trans (World.alloc_heap_new w _)
  have x1 : BoxM w1 (w.heap.size + 1) m := by
    rw [← hw1]; have := BoxM.new (w.alloc (.cells #[.slice A a.ids.length c, .bool a.root.cell, .int .i64 a.root.n, .bool a.jumps] 26)) m; rwa [World.size_alloc] at this
  have HB := Lib.hid hb
  have K0 : Hid (∀ W, Below w1.heap.size w1 W → BoxA W w.heap.size (.slice A a.ids.length c) a.root a.jumps) := Lib.hid fun W hW => boxA_at x0 hW
  have K1 : Hid (∀ W, Below w1.heap.size w1 W → BoxM W (w.heap.size + 1) m) := Lib.hid fun W hW => boxM_at x1 hW
  have LW : Hid (∀ W, Below w1.heap.size w1 W → Laid W) := Lib.hid fun W hW => h.later (nm_on hb hW)
  have VW : ∀ W, Below w1.heap.size w1 W → TyIn W W.heap.size (.slice A a.ids.length c) a.ids := fun W hW => tyIn_later hv (nm_on hb hW)
  have PRE := pre15 m w w1 h ht hb c1 c2 c3
  have C17 : Hid (∀ W, Below w1.heap.size w1 W → Calls Tryz.prog 17 #[.agg #[.slice A a.ids.length c, .bool a.root.cell, .int .i64 a.root.n, .bool a.jumps]] W fun e w' => e = .returned (.bool (thinB a)) ∧ Below W.heap.size W w') := Lib.hid fun W hW => thin_any (.slice A a.ids.length c) a W (VW W hW)
  cases hth : thinB a with
  | false =>
    rw [hth] at C17
    rcases PRE with ⟨T, C42⟩ | ⟨T, T', k, o, C42, h1, h2, h3, h4, C43, (D43 | ⟨D43, hEQ⟩), hNE⟩
    · exact law15_tn A a.ids.length c a.root a.jumps m w w1 hw1 HB K0 K1 LW T C42 C17
    · exact law15_gn A a.ids.length c a.root a.jumps m w w1 hw1 HB K0 K1 LW T C42 T' k h1 h2 h3 h4 o C43 D43 hNE guard40 C17
    · exact law15_on A a.ids.length c a.root a.jumps m w w1 hw1 HB K0 K1 LW T C42 T' k h1 h2 h3 h4 o C43 D43 hNE hEQ guard40 C17
  | true =>
    rw [hth] at C17
    obtain ⟨hl0, hp0⟩ := thin_len hth
    have hl : a.ids.length ≤ 1000 := by omega
    have hpl : ∀ t ∈ a.ids, t.params.length ≤ 1000 := fun t ht => by have := hp0 t ht; omega
    have C25 : Hid (∀ W, Below w1.heap.size w1 W → Calls Tryz.prog 25 #[.agg #[.slice A a.ids.length c, .bool a.root.cell, .int .i64 a.root.n, .bool a.jumps]] W fun e w' => e = .returned (.int .i64 (checkRes a)) ∧ Below W.heap.size W w') := Lib.hid fun W hW => refCheck_any (.slice A a.ids.length c) a W hl hpl (VW W hW)
    by_cases hck0 : checkRes a = 0
    · rw [hck0] at C25
      obtain ⟨q1, q2⟩ := arTx_len hck0
      obtain ⟨j, hj⟩ : ∃ j, (arTx typeTx a).size = j + 1 := ⟨(arTx typeTx a).size - 1, by omega⟩
      have hj2 : j ≤ 1000 := by omega
      have hsz : ((arTx typeTx a).extract 0 j).size ≤ 700 := by rw [ByteArray.size_extract]; omega
      have C19 : Hid (∀ W, Below w1.heap.size w1 W → Calls Tryz.prog 19 #[.agg #[.slice A a.ids.length c, .bool a.root.cell, .int .i64 a.root.n, .bool a.jumps]] W fun e w' => ∃ A' c', e = .returned (.agg #[.slice A' a.ids.length c', .bool a.root.cell, .int .i64 a.root.n, .bool a.jumps]) ∧ Hid (TyIn w' w'.heap.size (.slice A' a.ids.length c') a.ids) ∧ Below W.heap.size W w') := Lib.hid fun W hW => by
        refine (copy_any (.slice A a.ids.length c) a W hl hpl (VW W hW)).mono ?_
        rintro e w' ⟨v', rfl, hv', hb'⟩
        obtain ⟨A', c', rfl⟩ := tyIn_slice hv'
        exact ⟨A', c', rfl, Lib.hid hv', hb'⟩
      have C22 : Hid (∀ W A' c', TyIn W W.heap.size (.slice A' a.ids.length c') a.ids → Calls Tryz.prog 22 #[.agg #[.slice A' a.ids.length c', .bool a.root.cell, .int .i64 a.root.n, .bool a.jumps]] W fun e w' => e = .returned (.tuple #[.string (arTx typeTx a), .int .i64 0]) ∧ Below W.heap.size W w') := Lib.hid fun W A' c' hW => by
        have := show2_any (.slice A' a.ids.length c') a W hl hpl hW
        rw [showRes_ok hck0] at this
        exact this
      have C46 : Hid (∀ W, Laid W → Calls Tryz.prog 46 #[.string (arTx typeTx a)] W fun e w' => ∃ A' c', e = .returned (.tuple #[.agg #[.slice A' a.ids.length c', .bool a.root.cell, .int .i64 a.root.n, .bool a.jumps], .int .i64 0]) ∧ Hid (TyIn w' w'.heap.size (.slice A' a.ids.length c') a.ids) ∧ Below W.heap.size W w') := Lib.hid fun W hW => by
        have := read_any (arTx typeTx a) W (by omega) hW
        rw [readR_tx hck0] at this
        refine this.mono ?_
        rintro e w' ⟨v', rfl, hv', hb'⟩
        obtain ⟨A', c', rfl⟩ := tyIn_slice hv'
        exact ⟨A', c', rfl, Lib.hid hv', hb'⟩
      have C27 : Hid (∀ W A' c', Below w1.heap.size w1 W → TyIn W W.heap.size (.slice A' a.ids.length c') a.ids → Calls Tryz.prog 27 #[.agg #[.slice A a.ids.length c, .bool a.root.cell, .int .i64 a.root.n, .bool a.jumps], .agg #[.slice A' a.ids.length c', .bool a.root.cell, .int .i64 a.root.n, .bool a.jumps]] W fun e w' => e = .returned (.bool true) ∧ Below W.heap.size W w') := Lib.hid fun W A' c' hW h2 => by
        have := same2_any (.slice A a.ids.length c) (.slice A' a.ids.length c') a a W hl hl hpl hpl (VW W hW) h2
        rw [decide_eq_true rfl] at this
        exact this
      obtain ⟨a2, ha2⟩ : ∃ x, (readR ((arTx typeTx a).extract 0 j)).1 = x := ⟨_, rfl⟩
      have D46 : ∀ pe, (readR ((arTx typeTx a).extract 0 j)).2 = pe → Hid (∀ W, Laid W → Calls Tryz.prog 46 #[.string ((arTx typeTx a).extract 0 j)] W fun e w' => ∃ A' c', e = .returned (.tuple #[.agg #[.slice A' a2.ids.length c', .bool a2.root.cell, .int .i64 a2.root.n, .bool a2.jumps], .int .i64 pe]) ∧ Hid (TyIn w' w'.heap.size (.slice A' a2.ids.length c') a2.ids) ∧ Below W.heap.size W w') := fun pe hpe => Lib.hid fun W hW => by
        have := read_any ((arTx typeTx a).extract 0 j) W (by omega) hW
        rw [ha2, hpe] at this
        refine this.mono ?_
        rintro e w' ⟨v', rfl, hv', hb'⟩
        obtain ⟨A', c', rfl⟩ := tyIn_slice hv'
        exact ⟨A', c', rfl, Lib.hid hv', hb'⟩
      rcases read_err ((arTx typeTx a).extract 0 j) with e2 | e2
      · replace D46 := D46 0 e2
        obtain ⟨g1, g2⟩ := readR_ids ((arTx typeTx a).extract 0 j)
        rw [ha2] at g1 g2
        have hne : ¬ a = a2 := fun e3 => by
          have h2 := read_shows e2
          rw [ha2, ← e3, showRes_ok hck0] at h2
          exact cut_ne hj h2.symm
        have D27 : Hid (∀ W A' c', Below w1.heap.size w1 W → TyIn W W.heap.size (.slice A' a2.ids.length c') a2.ids → Calls Tryz.prog 27 #[.agg #[.slice A a.ids.length c, .bool a.root.cell, .int .i64 a.root.n, .bool a.jumps], .agg #[.slice A' a2.ids.length c', .bool a2.root.cell, .int .i64 a2.root.n, .bool a2.jumps]] W fun e w' => e = .returned (.bool false) ∧ Below W.heap.size W w') := Lib.hid fun W A' c' hW h2 => by
          have := same2_any (.slice A a.ids.length c) (.slice A' a2.ids.length c') a a2 W hl (by omega) hpl (fun t ht => by have := g2 t ht; omega) (VW W hW) h2
          rw [decide_eq_false hne] at this
          exact this
        rcases PRE with ⟨T, C42⟩ | ⟨T, T', k, o, C42, h1, h2, h3, h4, C43, (D43 | ⟨D43, hEQ⟩), hNE⟩
        · exact law15_ty A a.ids.length c a.root a.jumps a.ids m w w1 hw1 HB K0 K1 LW T C42 C17 C25 C19 (arTx typeTx a) ((arTx typeTx a).extract 0 j) j (not_empty hj) hj hj2 rfl C22 C46 _ _ _ _ D46 C27 D27
        · exact law15_gy A a.ids.length c a.root a.jumps a.ids m w w1 hw1 HB K0 K1 LW T C42 T' k h1 h2 h3 h4 o C43 D43 hNE guard40 C17 C25 C19 (arTx typeTx a) ((arTx typeTx a).extract 0 j) j (not_empty hj) hj hj2 rfl C22 C46 _ _ _ _ D46 C27 D27
        · exact law15_oy A a.ids.length c a.root a.jumps a.ids m w w1 hw1 HB K0 K1 LW T C42 T' k h1 h2 h3 h4 o C43 D43 hNE hEQ guard40 C17 C25 C19 (arTx typeTx a) ((arTx typeTx a).extract 0 j) j (not_empty hj) hj hj2 rfl C22 C46 _ _ _ _ D46 C27 D27
      · replace D46 := D46 4 e2
        rcases PRE with ⟨T, C42⟩ | ⟨T, T', k, o, C42, h1, h2, h3, h4, C43, (D43 | ⟨D43, hEQ⟩), hNE⟩
        · exact law15_tx A a.ids.length c a.root a.jumps a.ids m w w1 hw1 HB K0 K1 LW T C42 C17 C25 C19 (arTx typeTx a) ((arTx typeTx a).extract 0 j) j (not_empty hj) hj hj2 rfl C22 C46 _ _ _ _ D46 C27
        · exact law15_gx A a.ids.length c a.root a.jumps a.ids m w w1 hw1 HB K0 K1 LW T C42 T' k h1 h2 h3 h4 o C43 D43 hNE guard40 C17 C25 C19 (arTx typeTx a) ((arTx typeTx a).extract 0 j) j (not_empty hj) hj hj2 rfl C22 C46 _ _ _ _ D46 C27
        · exact law15_ox A a.ids.length c a.root a.jumps a.ids m w w1 hw1 HB K0 K1 LW T C42 T' k h1 h2 h3 h4 o C43 D43 hNE hEQ guard40 C17 C25 C19 (arTx typeTx a) ((arTx typeTx a).extract 0 j) j (not_empty hj) hj hj2 rfl C22 C46 _ _ _ _ D46 C27
    · have hck : (checkRes a == 0) = false := by rw [beq_eq_false_iff_ne]; exact hck0
      rcases PRE with ⟨T, C42⟩ | ⟨T, T', k, o, C42, h1, h2, h3, h4, C43, (D43 | ⟨D43, hEQ⟩), hNE⟩
      · exact law15_tc A a.ids.length c a.root a.jumps m w w1 hw1 HB K0 K1 LW T C42 C17 _ hck C25
      · exact law15_gc A a.ids.length c a.root a.jumps m w w1 hw1 HB K0 K1 LW T C42 T' k h1 h2 h3 h4 o C43 D43 hNE guard40 C17 _ hck C25
      · exact law15_oc A a.ids.length c a.root a.jumps m w w1 hw1 HB K0 K1 LW T C42 T' k h1 h2 h3 h4 o C43 D43 hNE hEQ guard40 C17 _ hck C25
end Go.Proofs.YtklfojmflmablaaGreatDoor
