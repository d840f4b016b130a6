/- The reference: what is right, what is the same; whether an arena is thin. -/
import Derived.BigQuiet
import Derived.Deep.QuietTactic
import Derived.Laws.StructEq
import Derived.Test.YtklfojmflmablaaGreatDoorCkB
/- The statements: whether an arena is thin. -/
namespace Go.Proofs.YtklfojmflmablaaGreatDoor
open Go Go.RowKit Go.Shelf

def thinB (a : Ar) : Bool := decide (a.ids.length ≤ 12) && a.ids.all fun t => decide (t.params.length ≤ 8)
theorem thin_len {a : Ar} (h : thinB a = true) : a.ids.length ≤ 12 ∧ ∀ t ∈ a.ids, t.params.length ≤ 8 := by
  simpa [thinB] using h
theorem thin_big {a : Ar} (h : 12 < a.ids.length) : thinB a = false := by
  unfold thinB
  rw [decide_eq_false (by omega)]
  rfl
theorem thin_wide {a : Ar} {t : Ty} {j : Nat} (h : a.ids[j]? = some t) (h8 : 8 < t.params.length) : thinB a = false := by
  unfold thinB
  have : (a.ids.all fun t => decide (t.params.length ≤ 8)) = false := by
    rw [List.all_eq_false]
    exact ⟨t, List.mem_of_getElem? h, by simpa using h8⟩
  rw [this, Bool.and_false]
theorem thin_yes {a : Ar} (h : a.ids.length ≤ 12) (h8 : ∀ t ∈ a.ids.take a.ids.length, t.params.length ≤ 8) : thinB a = true := by
  rw [List.take_length] at h8
  unfold thinB
  rw [decide_eq_true h, Bool.true_and, List.all_eq_true]
  intro t ht
  exact decide_eq_true (h8 t ht)
theorem take_more {α : Type} {p : α → Prop} {l : List α} {k : Nat} {x : α} (hx : l[k]? = some x) (h : p x) (hn : ∀ x ∈ l.take k, p x) : ∀ x ∈ l.take (k + 1), p x := by
  obtain ⟨hk, rfl⟩ := List.getElem?_eq_some_iff.1 hx
  intro y hy
  rw [List.take_succ_eq_append_getElem hk, List.mem_append] at hy
  rcases hy with hy | hy
  · exact hn y hy
  · obtain rfl : y = l[k] := by simpa using hy
    exact h

set_option maxRecDepth 100000 in
set_option maxHeartbeats 1000000 in
theorem thin_any (v : Value) (a : Ar) (w : World) (hv : TyIn w w.heap.size v a.ids) :
    Calls Tryz.prog 17 #[arV v a.root a.jumps] w fun e w' => e = .returned (.bool (thinB a)) ∧ Below w.heap.size w w' := by
  obtain ⟨A, c, rfl, hA⟩ := hv
  have HA := Lib.hid hA
  obtain ⟨w1, hw1⟩ : ∃ w1, w.alloc (.cells #[.slice A a.ids.length c, .bool a.root.cell, .int .i64 a.root.n, .bool a.jumps] 26) = w1 := ⟨_, rfl⟩
  have hb : Below w.heap.size w w1 := by rw [← hw1]; exact (Below.refl _ w).alloc (Nat.le_refl _) _
  have x0 : w1.heap[w.heap.size]? = some (.cells #[.slice A a.ids.length c, .bool a.root.cell, .int .i64 a.root.n, .bool a.jumps] 26 (0, 0)) := by rw [← hw1]; exact World.alloc_heap_new w _
  have HB := Lib.hid hb
  have HX0 := Lib.hid x0
  have c0 := cell_of_row w1 _ 0 _ 26 (0, 0) x0
  unfold arV
  clear hA hb x0
  by_cases h12 : 12 < a.ids.length
  · have HR := Lib.hid (thin_big h12)
    go_enter Tryz.func17, Tryz.ntmps17
    go_wp2
    go_ret
    exact ⟨by rw [HR.out]; rfl, HB.out⟩
  · go_enter Tryz.func17, Tryz.ntmps17
    go_wp2
    go_loopw [3] (fun i wr => ∃ j : Nat, i = .int .i64 j ∧ j ≤ a.ids.length ∧ Hid (∀ t ∈ a.ids.take j, t.params.length ≤ 8) ∧ w1 = wr) (fun i _ => a.ids.length - (intOf i).toNat)
    case atStart => exact ⟨0, rfl, Nat.zero_le _, Lib.hid (fun x hx => by simp at hx), rfl⟩
    case round =>
      obtain ⟨j, rfl, hj, hno, rfl⟩ := hrel
      by_cases hlt : j < a.ids.length
      · obtain ⟨x, hx⟩ : ∃ x, a.ids[j]? = some x := ⟨_, List.getElem?_eq_getElem hlt⟩
        obtain ⟨b, off, pv, rfl, hbn, hbs, d0, d1, d2⟩ := HA.out j x hx
        replace d0 := (World.cell?_of_block (HB.out.block b hbn)).trans d0
        obtain ⟨A', c', rfl⟩ := bsIn_slice hbs
        have HX := Lib.hid hx
        clear hx d1 d2 hbs
        by_cases h8 : 8 < x.params.length
        · have HR := Lib.hid (thin_wide HX.out h8)
          go_wp2
          go_ret
          exact ⟨by rw [HR.out]; rfl, HB.out⟩
        · have HN := Lib.hid (take_more (p := fun t : Ty => t.params.length ≤ 8) HX.out (by omega) hno.out)
          go_wp2
          exact ⟨⟨j + 1, by simp, by omega, HN, trivial⟩, by simp [intOf]; omega⟩
      · obtain rfl : j = a.ids.length := by omega
        have HR := Lib.hid (thin_yes (a := a) (by omega) hno.out)
        go_wp2
        go_ret
        exact ⟨by rw [HR.out]; rfl, HB.out⟩
end Go.Proofs.YtklfojmflmablaaGreatDoor
/- The reference: In, IsBase, IsType. -/
namespace Go.Proofs.YtklfojmflmablaaGreatDoor
open Go Go.RowKit Go.Shelf

def inB (n a b : Int) : Bool := decide (a ≤ n) && decide (n ≤ b)
set_option maxRecDepth 100000 in
theorem in_any (n a b : Int) (w : World) : Calls Tryz.prog 105 #[.int .i64 n, .int .i64 a, .int .i64 b] w fun e w' => e = .returned (.bool (inB n a b)) ∧ w = w' := by
  unfold inB
  by_cases h1 : a ≤ n
  · have e1 : decide (a ≤ n) = true := decide_eq_true h1
    by_cases h2 : n ≤ b
    · have e2 : decide (n ≤ b) = true := decide_eq_true h2
      rw [e1, e2]
      go_enter Tryz.func105, Tryz.ntmps105
      go_wp2
      go_ret
      exact ⟨rfl, rfl⟩
    · have e2 : decide (n ≤ b) = false := decide_eq_false h2
      rw [e1, e2]
      go_enter Tryz.func105, Tryz.ntmps105
      go_wp2
      go_ret
      exact ⟨rfl, rfl⟩
  · have e1 : decide (a ≤ n) = false := decide_eq_false h1
    rw [e1]
    go_enter Tryz.func105, Tryz.ntmps105
    go_wp2
    go_ret
    exact ⟨rfl, rfl⟩

set_option maxRecDepth 100000 in
theorem isBase_any (x : Bs) (w : World) : Calls Tryz.prog 80 #[.agg #[.bool x.cell, .int .i64 x.n]] w fun e w' => e = .returned (.bool (okBs x)) ∧ Below w.heap.size w w' := by
  have HB := Lib.hid ((Below.refl _ w).alloc (Nat.le_refl _) (.cells #[.bool x.cell, .int .i64 x.n] 24))
  have C := Lib.hid (in_any x.n 1 64)
  have HE : Hid (okBs x = inB x.n 1 64) := Lib.hid rfl
  go_enter Tryz.func80, Tryz.ntmps80
  go_wp2_with (go_at_call 105; refine (C.out _).mono ?_; rintro e w2 ⟨rfl, rfl⟩)
  go_ret
  exact ⟨by rw [HE.out]; rfl, HB.out⟩

theorem okTy_bad {t : Ty} {b : Bs} {j : Nat} (h : t.params[j]? = some b) (hb : okBs b = false) : okTy t = false := by
  unfold okTy
  have : (t.params.all okBs) = false := by
    rw [List.all_eq_false]
    exact ⟨b, List.mem_of_getElem? h, by simp [hb]⟩
  rw [this, Bool.and_false, Bool.and_false]
theorem okTy_rest {t : Ty} (h : ∀ b ∈ t.params.take t.params.length, okBs b = true) : okTy t = (okBs t.result && (decide (t.params.length = 0) || !t.result.cell)) := by
  rw [List.take_length] at h
  unfold okTy
  have : (t.params.all okBs) = true := List.all_eq_true.2 h
  rw [this, Bool.and_true]
  have e : decide (0 < t.params.length) = !decide (t.params.length = 0) := by
    by_cases h : t.params.length = 0 <;> simp [h]
    omega
  rw [e]
  cases okBs t.result <;> cases t.result.cell <;> cases decide (t.params.length = 0) <;> rfl

set_option maxRecDepth 100000 in
set_option maxHeartbeats 1000000 in
theorem isType_any (pv : Value) (x : Ty) (w : World) (hl : x.params.length ≤ 1000) (hv : BsIn w w.heap.size pv x.params) :
    Calls Tryz.prog 79 #[tyV pv x.result] w fun e w' => e = .returned (.bool (okTy x)) ∧ Below w.heap.size w w' := by
  obtain ⟨A, c, rfl, hA⟩ := hv
  have HA := Lib.hid hA
  obtain ⟨w1, hw1⟩ : ∃ w1, w.alloc (.cells #[.slice A x.params.length c, .bool x.result.cell, .int .i64 x.result.n] 64) = w1 := ⟨_, rfl⟩
  have hb : Below w.heap.size w w1 := by rw [← hw1]; exact (Below.refl _ w).alloc (Nat.le_refl _) _
  have x0 : w1.heap[w.heap.size]? = some (.cells #[.slice A x.params.length c, .bool x.result.cell, .int .i64 x.result.n] 64 (0, 0)) := by rw [← hw1]; exact World.alloc_heap_new w _
  have HB := Lib.hid hb
  have HX0 := Lib.hid x0
  have c0 := cell_of_row w1 _ 0 _ 64 (0, 0) x0
  unfold tyV
  clear hA hb x0
  go_enter Tryz.func79, Tryz.ntmps79
  go_wp2
  go_loopw [3] (fun i wr => ∃ j : Nat, i = .int .i64 j ∧ j ≤ x.params.length ∧ Hid (∀ t ∈ x.params.take j, okBs t = true) ∧ Hid (Below w1.heap.size w1 wr)) (fun i _ => x.params.length - (intOf i).toNat)
  case atStart => exact ⟨0, rfl, Nat.zero_le _, Lib.hid (fun x hx => by simp at hx), Lib.hid (Below.refl _ _)⟩
  case round =>
    obtain ⟨j, rfl, hj, hno, hB⟩ := hrel
    have y0 := (hB.out.block _ (Array.getElem?_eq_some_iff.1 HX0.out).1).trans HX0.out
    have c0 := cell_of_row wr _ 0 _ 64 (0, 0) y0
    have c1 := cell_of_row wr _ 1 _ 64 (0, 0) y0
    have c2 := cell_of_row wr _ 2 _ 64 (0, 0) y0
    have HY0 := Lib.hid y0
    clear y0
    by_cases hlt : j < x.params.length
    · obtain ⟨y, hy⟩ : ∃ y, x.params[j]? = some y := ⟨_, List.getElem?_eq_getElem hlt⟩
      obtain ⟨b, off, rfl, hbn, e0, e1⟩ := HA.out j y hy
      have HW : Hid (∀ b, b < w.heap.size → wr.heap[b]? = w.heap[b]?) := Lib.hid (HB.out.trans (hB.out.mono HB.out.size)).block
      replace e0 := (World.cell?_of_block (HW.out b hbn)).trans e0
      replace e1 := (World.cell?_of_block (HW.out b hbn)).trans e1
      have HX := Lib.hid hy
      have CB := Lib.hid (isBase_any y)
      clear hy
      cases hok : okBs y with
      | false =>
        rw [hok] at CB
        have HR := Lib.hid (okTy_bad HX.out hok)
        clear hok
        go_wp2_with (go_at_call 80; refine (CB.out _).mono ?_; rintro e w2 ⟨rfl, hb2⟩)
        go_ret
        exact ⟨by rw [HR.out]; rfl, HB.out.trans ((hB.out.trans (hb2.mono hB.out.size)).mono HB.out.size)⟩
      | true =>
        rw [hok] at CB
        have HN := Lib.hid (take_more (p := fun t : Bs => okBs t = true) HX.out hok hno.out)
        clear hok
        go_wp2_with (go_at_call 80; refine (CB.out _).mono ?_; rintro e w2 ⟨rfl, hb2⟩)
        exact ⟨⟨j + 1, by simp, by omega, HN, Lib.hid (hB.out.trans (hb2.mono hB.out.size))⟩, by simp [intOf]; omega⟩
    · obtain rfl : j = x.params.length := by omega
      have HR := Lib.hid (okTy_rest hno.out)
      have CB := Lib.hid (isBase_any x.result)
      have hz : ((x.params.length : Int) == 0) = decide (x.params.length = 0) := by
        by_cases h : x.params.length = 0 <;> simp [h]
      cases hok : okBs x.result with
      | false =>
        rw [hok] at CB HR
        clear hok
        go_wp2_with (go_at_call 80; refine (CB.out _).mono ?_; rintro e w2 ⟨rfl, hb2⟩)
        go_ret
        exact ⟨by rw [HR.out]; rfl, HB.out.trans ((hB.out.trans (hb2.mono hB.out.size)).mono HB.out.size)⟩
      | true =>
        rw [hok] at CB HR
        clear hok
        have HC0 : Hid (∀ W, Below wr.heap.size wr W → W.cell? ⟨w.heap.size, 0, none⟩ = some (.slice A x.params.length c) ∧ W.cell? ⟨w.heap.size, 1, none⟩ = some (.bool x.result.cell)) := Lib.hid fun W h => by
          have z := (h.block _ (Array.getElem?_eq_some_iff.1 HY0.out).1).trans HY0.out
          exact ⟨cell_of_row W _ 0 _ 64 (0, 0) z, cell_of_row W _ 1 _ 64 (0, 0) z⟩
        cases hzz : decide (x.params.length = 0) with
        | true =>
          rw [hzz] at hz HR
          clear hzz
          go_wp2_with (go_at_call 80; refine (CB.out _).mono ?_; rintro e w2 ⟨rfl, hb2⟩; obtain ⟨f0, f1⟩ := HC0.out _ hb2)
          go_ret
          exact ⟨by rw [HR.out]; rfl, HB.out.trans ((hB.out.trans (hb2.mono hB.out.size)).mono HB.out.size)⟩
        | false =>
          rw [hzz] at hz HR
          clear hzz
          go_wp2_with (go_at_call 80; refine (CB.out _).mono ?_; rintro e w2 ⟨rfl, hb2⟩; obtain ⟨f0, f1⟩ := HC0.out _ hb2)
          go_ret
          exact ⟨by rw [HR.out]; simp, HB.out.trans ((hB.out.trans (hb2.mono hB.out.size)).mono HB.out.size)⟩
end Go.Proofs.YtklfojmflmablaaGreatDoor
/- The reference: the error of an arena. -/
namespace Go.Proofs.YtklfojmflmablaaGreatDoor
open Go Go.RowKit Go.Shelf

theorem check_big {a : Ar} (h : 8 < a.ids.length) : checkRes a = 5 := by
  unfold checkRes
  rw [decide_eq_true h]
  rfl
theorem check_wide {a : Ar} {t : Ty} {j : Nat} (h : a.ids[j]? = some t) (h5 : 5 < t.params.length) : checkRes a = 5 := by
  unfold checkRes
  rw [any_get (pr := fun t : Ty => decide (5 < t.params.length)) h (decide_eq_true h5), Bool.or_true]
  rfl
theorem check_rest {a : Ar} (h : ¬ 8 < a.ids.length) (h5 : ∀ t ∈ a.ids.take a.ids.length, t.params.length ≤ 5) : checkRes a = if !(okBs a.root) || a.ids.any (fun t => !(okTy t)) then 4 else 0 := by
  rw [List.take_length] at h5
  unfold checkRes
  have : (a.ids.any fun t => decide (5 < t.params.length)) = false := by
    rw [List.any_eq_false]
    intro t ht
    have := h5 t ht
    simp
    omega
  rw [decide_eq_false h, this]
  rfl
theorem check_bad {a : Ar} {t : Ty} {j : Nat} (hr : checkRes a = if !(okBs a.root) || a.ids.any (fun t => !(okTy t)) then 4 else 0) (h : a.ids[j]? = some t) (hb : okTy t = false) : checkRes a = 4 := by
  rw [hr, any_get (pr := fun t : Ty => !(okTy t)) h (by simp [hb]), Bool.or_true]
  rfl
theorem check_end {a : Ar} (hr : checkRes a = if !(okBs a.root) || a.ids.any (fun t => !(okTy t)) then 4 else 0) (h : ∀ t ∈ a.ids.take a.ids.length, okTy t = true) : checkRes a = if okBs a.root then 0 else 4 := by
  rw [List.take_length] at h
  have : (a.ids.any fun t => !(okTy t)) = false := by
    rw [List.any_eq_false]
    intro t ht
    simp [h t ht]
  rw [hr, this]
  cases okBs a.root <;> rfl

set_option maxRecDepth 100000 in
set_option maxHeartbeats 1000000 in
theorem refCheck_any (v : Value) (a : Ar) (w : World) (hl : a.ids.length ≤ 1000) (hpl : ∀ t ∈ a.ids, t.params.length ≤ 1000) (hv : TyIn w w.heap.size v a.ids) :
    Calls Tryz.prog 25 #[arV v a.root a.jumps] w fun e w' => e = .returned (.int .i64 (checkRes a)) ∧ Below w.heap.size w w' := by
  obtain ⟨A, c, rfl, hA⟩ := hv
  have HA := Lib.hid hA
  have HPL := Lib.hid hpl
  obtain ⟨w1, hw1⟩ : ∃ w1, w.alloc (.cells #[.slice A a.ids.length c, .bool a.root.cell, .int .i64 a.root.n, .bool a.jumps] 26) = w1 := ⟨_, rfl⟩
  have hb : Below w.heap.size w w1 := by rw [← hw1]; exact (Below.refl _ w).alloc (Nat.le_refl _) _
  have x0 : w1.heap[w.heap.size]? = some (.cells #[.slice A a.ids.length c, .bool a.root.cell, .int .i64 a.root.n, .bool a.jumps] 26 (0, 0)) := by rw [← hw1]; exact World.alloc_heap_new w _
  have HB := Lib.hid hb
  have HX0 := Lib.hid x0
  have c0 := cell_of_row w1 _ 0 _ 26 (0, 0) x0
  unfold arV
  clear hA hb x0 hpl
  by_cases h8 : 8 < a.ids.length
  · have HR := Lib.hid (check_big h8)
    go_enter Tryz.func25, Tryz.ntmps25
    go_wp2
    go_ret
    exact ⟨by rw [HR.out]; rfl, HB.out⟩
  · go_enter Tryz.func25, Tryz.ntmps25
    go_wp2
    go_loopw [3] (fun i wr => ∃ j : Nat, i = .int .i64 j ∧ j ≤ a.ids.length ∧ Hid (∀ t ∈ a.ids.take j, t.params.length ≤ 5) ∧ w1 = wr) (fun i _ => a.ids.length - (intOf i).toNat)
    case atStart => exact ⟨0, rfl, Nat.zero_le _, Lib.hid (fun x hx => by simp at hx), rfl⟩
    case round =>
      obtain ⟨j, rfl, hj, hno, rfl⟩ := hrel
      by_cases hlt : j < a.ids.length
      · obtain ⟨x, hx⟩ : ∃ x, a.ids[j]? = some x := ⟨_, List.getElem?_eq_getElem hlt⟩
        obtain ⟨b, off, pv, rfl, hbn, hbs, d0, d1, d2⟩ := HA.out j x hx
        replace d0 := (World.cell?_of_block (HB.out.block b hbn)).trans d0
        obtain ⟨A', c', rfl⟩ := bsIn_slice hbs
        have HX := Lib.hid hx
        clear hx d1 d2 hbs
        by_cases h5 : 5 < x.params.length
        · have HR := Lib.hid (check_wide HX.out h5)
          go_wp2
          go_ret
          exact ⟨by rw [HR.out]; rfl, HB.out⟩
        · have HN := Lib.hid (take_more (p := fun t : Ty => t.params.length ≤ 5) HX.out (by omega) hno.out)
          go_wp2
          exact ⟨⟨j + 1, by simp, by omega, HN, trivial⟩, by simp [intOf]; omega⟩
      · obtain rfl : j = a.ids.length := by omega
        have HR := Lib.hid (check_rest h8 hno.out)
        clear hno h8
        go_wp2
        go_loopw [4] (fun i wr => ∃ j : Nat, i = .int .i64 j ∧ j ≤ a.ids.length ∧ Hid (∀ t ∈ a.ids.take j, okTy t = true) ∧ Hid (Below w1.heap.size w1 wr)) (fun i _ => a.ids.length - (intOf i).toNat)
        case atStart => exact ⟨0, rfl, Nat.zero_le _, Lib.hid (fun x hx => by simp at hx), Lib.hid (Below.refl _ _)⟩
        case round =>
          obtain ⟨j, rfl, hj, hno, hB⟩ := hrel
          have y0 := (hB.out.block _ (Array.getElem?_eq_some_iff.1 HX0.out).1).trans HX0.out
          have c0 := cell_of_row wr _ 0 _ 26 (0, 0) y0
          have c1 := cell_of_row wr _ 1 _ 26 (0, 0) y0
          have c2 := cell_of_row wr _ 2 _ 26 (0, 0) y0
          clear y0
          by_cases hlt : j < a.ids.length
          · obtain ⟨x, hx⟩ : ∃ x, a.ids[j]? = some x := ⟨_, List.getElem?_eq_getElem hlt⟩
            obtain ⟨b, off, pv, rfl, hbn, hbs, d0, d1, d2⟩ := HA.out j x hx
            have HW : Hid (∀ b, b < w.heap.size → wr.heap[b]? = w.heap[b]?) := Lib.hid (HB.out.trans (hB.out.mono HB.out.size)).block
            replace d0 := (World.cell?_of_block (HW.out b hbn)).trans d0
            replace d1 := (World.cell?_of_block (HW.out b hbn)).trans d1
            replace d2 := (World.cell?_of_block (HW.out b hbn)).trans d2
            have CT := Lib.hid (isType_any pv x wr (HPL.out x (List.mem_of_getElem? hx)) (bsIn_later hbs (HB.out.trans (hB.out.mono HB.out.size))))
            have HX := Lib.hid hx
            unfold tyV at CT
            clear hx hbs
            cases hok : okTy x with
            | false =>
              rw [hok] at CT
              have HE := Lib.hid (check_bad HR.out HX.out hok)
              clear hok
              go_wp2_with (go_at_call 79; refine CT.out.mono ?_; rintro e w2 ⟨rfl, hb2⟩)
              go_ret
              exact ⟨by rw [HE.out]; rfl, HB.out.trans ((hB.out.trans (hb2.mono hB.out.size)).mono HB.out.size)⟩
            | true =>
              rw [hok] at CT
              have HN := Lib.hid (take_more (p := fun t : Ty => okTy t = true) HX.out hok hno.out)
              clear hok
              go_wp2_with (go_at_call 79; refine CT.out.mono ?_; rintro e w2 ⟨rfl, hb2⟩)
              exact ⟨⟨j + 1, by simp, by omega, HN, Lib.hid (hB.out.trans (hb2.mono hB.out.size))⟩, by simp [intOf]; omega⟩
          · obtain rfl : j = a.ids.length := by omega
            have HE := Lib.hid (check_end HR.out hno.out)
            have CB := Lib.hid (isBase_any a.root)
            cases hok : okBs a.root with
            | false =>
              rw [hok] at CB HE
              clear hok
              go_wp2_with (go_at_call 80; refine (CB.out _).mono ?_; rintro e w2 ⟨rfl, hb2⟩)
              go_ret
              exact ⟨by rw [HE.out]; rfl, HB.out.trans ((hB.out.trans (hb2.mono hB.out.size)).mono HB.out.size)⟩
            | true =>
              rw [hok] at CB HE
              clear hok
              go_wp2_with (go_at_call 80; refine (CB.out _).mono ?_; rintro e w2 ⟨rfl, hb2⟩)
              go_ret
              exact ⟨by rw [HE.out]; rfl, HB.out.trans ((hB.out.trans (hb2.mono hB.out.size)).mono HB.out.size)⟩
end Go.Proofs.YtklfojmflmablaaGreatDoor
/- The reference: whether two types, two arenas are the same; at equal ones. -/
namespace Go.Proofs.YtklfojmflmablaaGreatDoor
open Go Go.RowKit Go.Shelf

theorem below_drN {B : Nat} {a w : World} (h : Below B a w) (n : Nat) : Below B a (w.drewN n) := h.trans ⟨rfl, rfl, rfl, Nat.le_refl _, fun _ _ => rfl⟩
theorem neq24 (w : World) (a b : Bs) : (binOp .neq 24 (.agg #[.bool a.cell, .int .i64 a.n]) (.agg #[.bool b.cell, .int .i64 b.n])).run Tryz.prog w = .ok (.bool (!decide (a = b))) w := by
  have hS : Tryz.prog.underlying 24 = some (.struct (Tryz.prog.fieldsOf 24)) := by kernel_rfl
  have hp : Tryz.prog.stoodInHeld 24 = false := by kernel_rfl
  have u3 := Tryz.underlying3
  have u4 := Tryz.underlying4
  rw [run_neq_struct, show (10000 : Nat) = 9999 + 1 from rfl, run_equalIn_agg w 9999 24 _ _ hS hp]
  simp only [Program.fieldsOf, Tryz.underlying24]
  go_simp
  obtain ⟨i, g⟩ := a
  obtain ⟨i', g'⟩ := b
  simp only [Bs.mk.injEq]
  by_cases h1 : i = i' <;> by_cases h2 : g = g' <;> simp [h1, h2]
theorem eq24 (w : World) (a b : Bs) : (binOp .eql 24 (.agg #[.bool a.cell, .int .i64 a.n]) (.agg #[.bool b.cell, .int .i64 b.n])).run Tryz.prog w = .ok (.bool (decide (a = b))) w := by
  have hS : Tryz.prog.underlying 24 = some (.struct (Tryz.prog.fieldsOf 24)) := by kernel_rfl
  have hp : Tryz.prog.stoodInHeld 24 = false := by kernel_rfl
  have u3 := Tryz.underlying3
  have u4 := Tryz.underlying4
  rw [run_eql_struct, show (10000 : Nat) = 9999 + 1 from rfl, run_equalIn_agg w 9999 24 _ _ hS hp]
  simp only [Program.fieldsOf, Tryz.underlying24]
  go_simp
  obtain ⟨i, g⟩ := a
  obtain ⟨i', g'⟩ := b
  simp only [Bs.mk.injEq]
  by_cases h1 : i = i' <;> by_cases h2 : g = g' <;> simp [h1, h2]
theorem guard24 : Tryz.prog.eqGuardType Tryz.prog.depth 24 = false := by kernel_rfl
theorem same24 (b : Bs) (w : World) : (binOp .neq 24 (.agg #[.bool b.cell, .int .i64 b.n]) (.agg #[.bool b.cell, .int .i64 b.n])).run Tryz.prog w = .ok (.bool false) w := by rw [neq24]; simp

set_option maxRecDepth 100000 in
set_option maxHeartbeats 1000000 in
theorem sameType_any (pv pv' : Value) (x : Ty) (w : World) (hl : x.params.length ≤ 1000) (hv : BsIn w w.heap.size pv x.params) (hv' : BsIn w w.heap.size pv' x.params) :
    Calls Tryz.prog 81 #[tyV pv x.result, tyV pv' x.result] w fun e w' => e = .returned (.bool true) ∧ Below w.heap.size w w' := by
  obtain ⟨A, c, rfl, hA⟩ := hv
  obtain ⟨A', c', rfl, hA'⟩ := hv'
  obtain ⟨l, r⟩ := x
  dsimp only at hA hA' hl ⊢
  have HA := Lib.hid hA
  have HA' := Lib.hid hA'
  have g24 := guard24
  have hE := same24 r
  obtain ⟨w1, hw1⟩ : ∃ w1, (w.alloc (.cells #[.slice A l.length c, .bool r.cell, .int .i64 r.n] 64)).alloc (.cells #[.slice A' l.length c', .bool r.cell, .int .i64 r.n] 64) = w1 := ⟨_, rfl⟩
  have hb : Below w.heap.size w w1 := by rw [← hw1]; exact ((Below.refl _ w).alloc (Nat.le_refl _) _).alloc (by simp) _
  have x0 : w1.heap[w.heap.size]? = some (.cells #[.slice A l.length c, .bool r.cell, .int .i64 r.n] 64 (0, 0)) := by rw [← hw1]; exact (Below.heap_alloc _ _ _ (by simp)).trans (World.alloc_heap_new w _)
  have x1 : w1.heap[w.heap.size + 1]? = some (.cells #[.slice A' l.length c', .bool r.cell, .int .i64 r.n] 64 (0, 0)) := by
    rw [← hw1]; have := World.alloc_heap_new (w.alloc (.cells #[.slice A l.length c, .bool r.cell, .int .i64 r.n] 64)) (.cells #[.slice A' l.length c', .bool r.cell, .int .i64 r.n] 64); rwa [World.size_alloc] at this
  have HB := Lib.hid hb
  have HX0 := Lib.hid x0
  have HX1 := Lib.hid x1
  have c0 := cell_of_row w1 _ 0 _ 64 (0, 0) x0
  have c1 := cell_of_row w1 _ 1 _ 64 (0, 0) x0
  have c2 := cell_of_row w1 _ 2 _ 64 (0, 0) x0
  have d0 := cell_of_row w1 _ 0 _ 64 (0, 0) x1
  have d1 := cell_of_row w1 _ 1 _ 64 (0, 0) x1
  have d2 := cell_of_row w1 _ 2 _ 64 (0, 0) x1
  unfold tyV
  clear hA hA' hb x0 x1
  go_enter Tryz.func81, Tryz.ntmps81
  go_wp2
  go_loopw [5] (fun i wr => ∃ j : Nat, i = .int .i64 j ∧ j ≤ l.length ∧ Hid (Below w1.heap.size w1 wr)) (fun i _ => l.length - (intOf i).toNat)
  case atStart => exact ⟨0, rfl, Nat.zero_le _, Lib.hid (Below.refl _ _)⟩
  case round =>
    obtain ⟨j, rfl, hj, hB⟩ := hrel
    have y0 := (hB.out.block _ (Array.getElem?_eq_some_iff.1 HX0.out).1).trans HX0.out
    have y1 := (hB.out.block _ (Array.getElem?_eq_some_iff.1 HX1.out).1).trans HX1.out
    have c0 := cell_of_row wr _ 0 _ 64 (0, 0) y0
    have d0 := cell_of_row wr _ 0 _ 64 (0, 0) y1
    clear y0 y1
    by_cases hlt : j < l.length
    · obtain ⟨y, hy⟩ : ∃ y, l[j]? = some y := ⟨_, List.getElem?_eq_getElem hlt⟩
      obtain ⟨b, off, rfl, hbn, e0, e1⟩ := HA.out j y hy
      obtain ⟨b', off', rfl, hbn', f0, f1⟩ := HA'.out j y hy
      have HW : Hid (∀ b, b < w.heap.size → wr.heap[b]? = w.heap[b]?) := Lib.hid (HB.out.trans (hB.out.mono HB.out.size)).block
      replace e0 := (World.cell?_of_block (HW.out b hbn)).trans e0
      replace e1 := (World.cell?_of_block (HW.out b hbn)).trans e1
      replace f0 := (World.cell?_of_block (HW.out b' hbn')).trans f0
      replace f1 := (World.cell?_of_block (HW.out b' hbn')).trans f1
      have hF := same24 y
      clear hy
      go_wp2_with fail
      go_quiet (fail)
      go_wp2
      refine ⟨⟨j + 1, by simp, by omega, Lib.hid (below_drN hB.out _)⟩, by simp [intOf]; omega⟩
    · go_wp2
      go_ret
      exact ⟨rfl, HB.out.trans (hB.out.mono HB.out.size)⟩
end Go.Proofs.YtklfojmflmablaaGreatDoor
/- The reference: whether two arenas are the same; at equal ones. -/
namespace Go.Proofs.YtklfojmflmablaaGreatDoor
open Go Go.RowKit Go.Shelf

set_option maxRecDepth 100000 in
set_option maxHeartbeats 1000000 in
theorem same_any (v v' : Value) (a : Ar) (w : World) (hl : a.ids.length ≤ 1000) (hpl : ∀ t ∈ a.ids, t.params.length ≤ 1000) (hv : TyIn w w.heap.size v a.ids) (hv' : TyIn w w.heap.size v' a.ids) :
    Calls Tryz.prog 27 #[arV v a.root a.jumps, arV v' a.root a.jumps] w fun e w' => e = .returned (.bool true) ∧ Below w.heap.size w w' := by
  obtain ⟨A, c, rfl, hA⟩ := hv
  obtain ⟨A', c', rfl, hA'⟩ := hv'
  obtain ⟨l, r, ju⟩ := a
  dsimp only at hA hA' hl hpl ⊢
  have HA := Lib.hid hA
  have HA' := Lib.hid hA'
  have HPL := Lib.hid hpl
  have g24 := guard24
  have hE := same24 r
  obtain ⟨w1, hw1⟩ : ∃ w1, (w.alloc (.cells #[.slice A l.length c, .bool r.cell, .int .i64 r.n, .bool ju] 26)).alloc (.cells #[.slice A' l.length c', .bool r.cell, .int .i64 r.n, .bool ju] 26) = w1 := ⟨_, rfl⟩
  have hb : Below w.heap.size w w1 := by rw [← hw1]; exact ((Below.refl _ w).alloc (Nat.le_refl _) _).alloc (by simp) _
  have x0 : w1.heap[w.heap.size]? = some (.cells #[.slice A l.length c, .bool r.cell, .int .i64 r.n, .bool ju] 26 (0, 0)) := by rw [← hw1]; exact (Below.heap_alloc _ _ _ (by simp)).trans (World.alloc_heap_new w _)
  have x1 : w1.heap[w.heap.size + 1]? = some (.cells #[.slice A' l.length c', .bool r.cell, .int .i64 r.n, .bool ju] 26 (0, 0)) := by
    rw [← hw1]; have := World.alloc_heap_new (w.alloc (.cells #[.slice A l.length c, .bool r.cell, .int .i64 r.n, .bool ju] 26)) (.cells #[.slice A' l.length c', .bool r.cell, .int .i64 r.n, .bool ju] 26); rwa [World.size_alloc] at this
  have HB := Lib.hid hb
  have HX0 := Lib.hid x0
  have HX1 := Lib.hid x1
  have c0 := cell_of_row w1 _ 0 _ 26 (0, 0) x0
  have c1 := cell_of_row w1 _ 1 _ 26 (0, 0) x0
  have c2 := cell_of_row w1 _ 2 _ 26 (0, 0) x0
  have c3 := cell_of_row w1 _ 3 _ 26 (0, 0) x0
  have d0 := cell_of_row w1 _ 0 _ 26 (0, 0) x1
  have d1 := cell_of_row w1 _ 1 _ 26 (0, 0) x1
  have d2 := cell_of_row w1 _ 2 _ 26 (0, 0) x1
  have d3 := cell_of_row w1 _ 3 _ 26 (0, 0) x1
  unfold arV
  clear hA hA' hb x0 x1 hpl
  go_enter Tryz.func27, Tryz.ntmps27
  go_wp2
  go_loopw [5] (fun i wr => ∃ j : Nat, i = .int .i64 j ∧ j ≤ l.length ∧ Hid (Below w1.heap.size w1 wr)) (fun i _ => l.length - (intOf i).toNat)
  case atStart => exact ⟨0, rfl, Nat.zero_le _, Lib.hid (Below.refl _ _)⟩
  case round =>
    obtain ⟨j, rfl, hj, hB⟩ := hrel
    have y0 := (hB.out.block _ (Array.getElem?_eq_some_iff.1 HX0.out).1).trans HX0.out
    have y1 := (hB.out.block _ (Array.getElem?_eq_some_iff.1 HX1.out).1).trans HX1.out
    have c0 := cell_of_row wr _ 0 _ 26 (0, 0) y0
    have d0 := cell_of_row wr _ 0 _ 26 (0, 0) y1
    clear y0 y1
    by_cases hlt : j < l.length
    · obtain ⟨y, hy⟩ : ∃ y, l[j]? = some y := ⟨_, List.getElem?_eq_getElem hlt⟩
      obtain ⟨b, off, pv, rfl, hbn, hbs, e0, e1, e2⟩ := HA.out j y hy
      obtain ⟨b', off', pv', rfl, hbn', hbs', f0, f1, f2⟩ := HA'.out j y hy
      have HW : Hid (∀ b, b < w.heap.size → wr.heap[b]? = w.heap[b]?) := Lib.hid (HB.out.trans (hB.out.mono HB.out.size)).block
      replace e0 := (World.cell?_of_block (HW.out b hbn)).trans e0
      replace e1 := (World.cell?_of_block (HW.out b hbn)).trans e1
      replace e2 := (World.cell?_of_block (HW.out b hbn)).trans e2
      replace f0 := (World.cell?_of_block (HW.out b' hbn')).trans f0
      replace f1 := (World.cell?_of_block (HW.out b' hbn')).trans f1
      replace f2 := (World.cell?_of_block (HW.out b' hbn')).trans f2
      have CS : Hid (∀ W, Below wr.heap.size wr W → Calls Tryz.prog 81 #[tyV pv y.result, tyV pv' y.result] W fun e w' => e = .returned (.bool true) ∧ Below W.heap.size W w') := Lib.hid fun W hW => by
        have h0 := HB.out.trans ((hB.out.trans (hW.mono hB.out.size)).mono HB.out.size)
        exact sameType_any pv pv' y W (HPL.out y (List.mem_of_getElem? hy)) (bsIn_later hbs h0) (bsIn_later hbs' h0)
      unfold tyV at CS
      clear hy hbs hbs'
      go_wp2_with fail
      go_region_with (go_at_call 81; refine (CS.out _ ((Below.refl _ wr).drew)).mono ?_; rintro e w2 ⟨rfl, hb2⟩)
      all_goals go_wp2
      all_goals exact ⟨⟨j + 1, by simp, by omega, Lib.hid (hB.out.trans ((((Below.refl _ wr).drew).trans hb2).mono hB.out.size))⟩, by simp [intOf]; omega⟩
    · go_wp2
      go_ret
      exact ⟨rfl, HB.out.trans (hB.out.mono HB.out.size)⟩
end Go.Proofs.YtklfojmflmablaaGreatDoor
