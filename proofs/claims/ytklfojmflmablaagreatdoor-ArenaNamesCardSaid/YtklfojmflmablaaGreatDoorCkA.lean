/- Package arena: when bases, types and arenas are right. -/
import Derived.Test.YtklfojmflmablaaGreatDoorArT
namespace Go.Proofs.YtklfojmflmablaaGreatDoor
open Go Go.RowKit Go.Shelf

def tyV (pv : Value) (r : Bs) : Value := .agg #[pv, .bool r.cell, .int .i64 r.n]
/-- A function value that tells of any base type (any type) whether something is so. -/
def BsFn (fv : Value) (pr : Bs → Bool) (n₁ : Nat) (w : World) : Prop :=
  ∃ k cp, fv = .func (.func k) #[] cp ∧ (∀ args w, (callFunc k args).run Tryz.prog w = .ok (.enter k args) w) ∧
    ∀ W, (∀ b, b < n₁ → W.heap[b]? = w.heap[b]?) → ∀ x, Calls Tryz.prog k (#[bsV x] ++ cp) W fun e W' => e = .returned (.bool (pr x)) ∧ Below W.heap.size W W'
def TyFn (fv : Value) (pr : Ty → Bool) (n₁ : Nat) (w : World) : Prop :=
  ∃ k cp, fv = .func (.func k) #[] cp ∧ (∀ args w, (callFunc k args).run Tryz.prog w = .ok (.enter k args) w) ∧
    ∀ W, (∀ b, b < n₁ → W.heap[b]? = w.heap[b]?) → ∀ pv x, BsIn W n₁ pv x.params → x.params.length ≤ 140737488355328 → Calls Tryz.prog k (#[tyV pv x.result] ++ cp) W fun e W' => e = .returned (.bool (pr x)) ∧ Below W.heap.size W W'

set_option maxRecDepth 100000 in
theorem rightBase_any (x : Bs) (w : World) : Calls Tryz.prog 71 #[bsV x] w fun e w' => e = .returned (.bool (okBs x)) ∧ Below w.heap.size w w' := by
  have HB := Lib.hid ((Below.refl _ w).alloc (Nat.le_refl _) (.cells #[.bool x.cell, .int .i64 x.n] 24))
  unfold bsV okBs
  by_cases h : 1 ≤ x.n
  · have hd : decide (1 ≤ x.n) = true := decide_eq_true h
    rw [hd]
    clear h
    go_enter Tryz.func71, Tryz.ntmps71
    go_wp2
    go_ret
    exact ⟨by simp, HB.out⟩
  · have hd : decide (1 ≤ x.n) = false := decide_eq_false h
    rw [hd]
    clear h
    go_enter Tryz.func71, Tryz.ntmps71
    go_wp2
    go_ret
    exact ⟨rfl, HB.out⟩

set_option maxRecDepth 100000 in
theorem wrongBase_any (x : Bs) (w : World) : Calls Tryz.prog 150 #[bsV x] w fun e w' => e = .returned (.bool (!okBs x)) ∧ Below w.heap.size w w' := by
  have HB := Lib.hid ((Below.refl _ w).alloc (Nat.le_refl _) (.cells #[.bool x.cell, .int .i64 x.n] 24))
  have C := Lib.hid (rightBase_any x)
  unfold bsV at C ⊢
  go_enter Tryz.func150, Tryz.ntmps150
  go_wp2_with (go_at_call 71; refine (C.out _).mono ?_; rintro e w2 ⟨rfl, hb2⟩)
  go_ret
  exact ⟨rfl, HB.out.trans (hb2.mono HB.out.size)⟩
theorem wrongBase_fn (n₁ : Nat) (w : World) : BsFn (.func (.func 150) #[] #[]) (fun x => !okBs x) n₁ w :=
  ⟨150, #[], rfl, enters_of Tryz.func150 (by kernel_rfl) rfl, fun W _ x => wrongBase_any x W⟩

theorem any_take_none {α : Type} {pr : α → Bool} {l : List α} {k : Nat} (h : ∀ x ∈ l.take k, pr x = false) (hk : l.length ≤ k) : l.any pr = false := by
  rw [List.take_of_length_le hk] at h
  rw [List.any_eq_false]
  intro x hx
  rw [h x hx]
  simp
theorem any_get {α : Type} {pr : α → Bool} {l : List α} {k : Nat} {x : α} (hx : l[k]? = some x) (h : pr x = true) : l.any pr = true :=
  List.any_eq_true.2 ⟨x, List.mem_of_getElem? hx, h⟩
theorem take_succ_none {α : Type} {pr : α → Bool} {l : List α} {k : Nat} {x : α} (hx : l[k]? = some x) (h : pr x = false) (hn : ∀ x ∈ l.take k, pr x = false) : ∀ x ∈ l.take (k + 1), pr x = false := by
  obtain ⟨hk, rfl⟩ := List.getElem?_eq_some_iff.1 hx
  intro y hy
  rw [List.take_succ_eq_append_getElem hk, List.mem_append] at hy
  rcases hy with hy | hy
  · exact hn y hy
  · obtain rfl : y = l[k] := by simpa using hy
    exact h

set_option maxRecDepth 100000 in
set_option maxHeartbeats 1000000 in
theorem indexBs_any (v fv : Value) (pr : Bs → Bool) (l : List Bs) (w : World) (hl : l.length ≤ 140737488355328) (hv : BsIn w w.heap.size v l) (hf : BsFn fv pr w.heap.size w) :
    Calls Tryz.prog 196 #[v, fv] w fun e w' => ∃ r : Int, e = .returned (.int .i64 r) ∧ decide (0 ≤ r) = l.any pr ∧ Below w.heap.size w w' := by
  obtain ⟨A, cap, rfl, hA⟩ := hv
  obtain ⟨k, cp, rfl, ek, hp⟩ := hf
  have HA := Lib.hid hA
  have HP := Lib.hid hp
  clear hA hp
  go_enter Tryz.func196, Tryz.ntmps196
  go_wp2
  go_loopw [8] (fun i wr => ∃ j : Nat, i = .int .i64 j ∧ j ≤ l.length ∧ Hid (∀ x ∈ l.take j, pr x = false) ∧ Hid (Below w.heap.size w wr)) (fun i _ => l.length - (intOf i).toNat)
  case atStart => exact ⟨0, rfl, Nat.zero_le _, Lib.hid (fun x hx => by simp at hx), Lib.hid (Below.refl _ _)⟩
  case round =>
    obtain ⟨j, rfl, hj, hno, hB⟩ := hrel
    by_cases hlt : j < l.length
    · obtain ⟨x, hx⟩ : ∃ x, l[j]? = some x := ⟨_, List.getElem?_eq_getElem hlt⟩
      obtain ⟨b, off, rfl, hbn, d0, d1⟩ := HA.out j x hx
      have HW : Hid (∀ b, b < w.heap.size → wr.heap[b]? = w.heap[b]?) := Lib.hid hB.out.block
      replace d0 := (World.cell?_of_block (HW.out b hbn)).trans d0
      replace d1 := (World.cell?_of_block (HW.out b hbn)).trans d1
      have CK := Lib.hid (HP.out wr HW.out x)
      unfold bsV at CK
      have HX := Lib.hid hx
      clear hx
      cases hpx : pr x with
      | true =>
        rw [hpx] at CK
        have HPX := Lib.hid hpx
        clear hpx
        go_wp2_with (go_at_fn k; refine CK.out.mono ?_; rintro e w2 ⟨rfl, hb2⟩)
        go_ret
        refine ⟨_, rfl, ?_, hB.out.trans (hb2.mono hB.out.size)⟩
        rw [any_get HX.out HPX.out]
        simp
      | false =>
        rw [hpx] at CK
        have HPX := Lib.hid hpx
        clear hpx
        go_wp2_with (go_at_fn k; refine CK.out.mono ?_; rintro e w2 ⟨rfl, hb2⟩)
        refine ⟨⟨j + 1, by simp, by omega, Lib.hid (take_succ_none HX.out HPX.out hno.out), Lib.hid (hB.out.trans (hb2.mono hB.out.size))⟩, by simp [intOf]; omega⟩
    · go_wp2
      go_ret
      refine ⟨_, rfl, ?_, hB.out⟩
      rw [any_take_none hno.out (by omega)]
      simp

set_option maxRecDepth 100000 in
theorem containsBs_any (v fv : Value) (pr : Bs → Bool) (l : List Bs) (w : World) (hl : l.length ≤ 140737488355328) (hv : BsIn w w.heap.size v l) (hf : BsFn fv pr w.heap.size w) :
    Calls Tryz.prog 151 #[v, fv] w fun e w' => e = .returned (.bool (l.any pr)) ∧ Below w.heap.size w w' := by
  have C := Lib.hid (indexBs_any v fv pr l w hl hv hf)
  obtain ⟨A, cap, rfl, hA⟩ := hv
  clear hA hf
  go_enter Tryz.func151, Tryz.ntmps151
  go_wp2_with (go_at_call 196; refine C.out.mono ?_; rintro e w2 ⟨r, rfl, hr, hb2⟩; have HR := Lib.hid hr; clear hr)
  go_ret
  exact ⟨by rw [← HR.out]; rfl, hb2⟩

set_option maxRecDepth 100000 in
set_option maxHeartbeats 1000000 in
theorem indexTy_any (v fv : Value) (pr : Ty → Bool) (l : List Ty) (w : World) (hl : l.length ≤ 140737488355328) (hpl : ∀ x ∈ l, x.params.length ≤ 140737488355328) (hv : TyIn w w.heap.size v l) (hf : TyFn fv pr w.heap.size w) :
    Calls Tryz.prog 149 #[v, fv] w fun e w' => ∃ r : Int, e = .returned (.int .i64 r) ∧ decide (0 ≤ r) = l.any pr ∧ Below w.heap.size w w' := by
  obtain ⟨A, cap, rfl, hA⟩ := hv
  obtain ⟨k, cp, rfl, ek, hp⟩ := hf
  have HA := Lib.hid hA
  have HP := Lib.hid hp
  have HL := Lib.hid hpl
  clear hA hp
  go_enter Tryz.func149, Tryz.ntmps149
  go_wp2
  go_loopw [8] (fun i wr => ∃ j : Nat, i = .int .i64 j ∧ j ≤ l.length ∧ Hid (∀ x ∈ l.take j, pr x = false) ∧ Hid (Below w.heap.size w wr)) (fun i _ => l.length - (intOf i).toNat)
  case atStart => exact ⟨0, rfl, Nat.zero_le _, Lib.hid (fun x hx => by simp at hx), Lib.hid (Below.refl _ _)⟩
  case round =>
    obtain ⟨j, rfl, hj, hno, hB⟩ := hrel
    by_cases hlt : j < l.length
    · obtain ⟨x, hx⟩ : ∃ x, l[j]? = some x := ⟨_, List.getElem?_eq_getElem hlt⟩
      obtain ⟨b, off, pv, rfl, hbn, hbs, d0, d1, d2⟩ := HA.out j x hx
      have HW : Hid (∀ b, b < w.heap.size → wr.heap[b]? = w.heap[b]?) := Lib.hid hB.out.block
      replace d0 := (World.cell?_of_block (HW.out b hbn)).trans d0
      replace d1 := (World.cell?_of_block (HW.out b hbn)).trans d1
      replace d2 := (World.cell?_of_block (HW.out b hbn)).trans d2
      have CK := Lib.hid (HP.out wr HW.out pv x (hbs.below HW.out) (HL.out x (List.mem_of_getElem? hx)))
      unfold tyV at CK
      have HX := Lib.hid hx
      clear hx
      cases hpx : pr x with
      | true =>
        rw [hpx] at CK
        have HPX := Lib.hid hpx
        clear hpx
        go_wp2_with (go_at_fn k; refine CK.out.mono ?_; rintro e w2 ⟨rfl, hb2⟩)
        go_ret
        refine ⟨_, rfl, ?_, hB.out.trans (hb2.mono hB.out.size)⟩
        rw [any_get HX.out HPX.out]
        simp
      | false =>
        rw [hpx] at CK
        have HPX := Lib.hid hpx
        clear hpx
        go_wp2_with (go_at_fn k; refine CK.out.mono ?_; rintro e w2 ⟨rfl, hb2⟩)
        refine ⟨⟨j + 1, by simp, by omega, Lib.hid (take_succ_none HX.out HPX.out hno.out), Lib.hid (hB.out.trans (hb2.mono hB.out.size))⟩, by simp [intOf]; omega⟩
    · go_wp2
      go_ret
      refine ⟨_, rfl, ?_, hB.out⟩
      rw [any_take_none hno.out (by omega)]
      simp

set_option maxRecDepth 100000 in
theorem containsTy_any (v fv : Value) (pr : Ty → Bool) (l : List Ty) (w : World) (hl : l.length ≤ 140737488355328) (hpl : ∀ x ∈ l, x.params.length ≤ 140737488355328) (hv : TyIn w w.heap.size v l) (hf : TyFn fv pr w.heap.size w) :
    Calls Tryz.prog 67 #[v, fv] w fun e w' => e = .returned (.bool (l.any pr)) ∧ Below w.heap.size w w' := by
  have C := Lib.hid (indexTy_any v fv pr l w hl hpl hv hf)
  obtain ⟨A, cap, rfl, hA⟩ := hv
  clear hA hf
  go_enter Tryz.func67, Tryz.ntmps67
  go_wp2_with (go_at_call 149; refine C.out.mono ?_; rintro e w2 ⟨r, rfl, hr, hb2⟩; have HR := Lib.hid hr; clear hr)
  go_ret
  exact ⟨by rw [← HR.out]; rfl, hb2⟩
end Go.Proofs.YtklfojmflmablaaGreatDoor
