/- The reference: places, and the arena of what stands for an identifier. -/
import Derived.Test.YtklfojmflmablaaGreatDoorGi
import Derived.Test.YtklfojmflmablaaGreatDoorGj
/- The reference: Place. -/
namespace Go.Proofs.YtklfojmflmablaaGreatDoor
open Go Go.RowKit Go.Shelf

def zeroBs : Bs := ⟨false, 0⟩
/-- A block that holds a base type. -/
def BoxB (W : World) (B : Nat) (b : Bs) : Prop := W.heap[B]? = some (.cells #[.bool b.cell, .int .i64 b.n] 24 (0, 0))
theorem BoxB.lt {W : World} {B : Nat} {b : Bs} (h : BoxB W B b) : B < W.heap.size := (Array.getElem?_eq_some_iff.1 h).1
/-- A store of a base type into its block, each world a letter. -/
theorem chain24 {W : World} {B : Nat} {b0 : Bs} (h : BoxB W B b0) (b : Bs) : ∃ x1 x2 : World,
    W.setCell ⟨B, 0, none⟩ (.bool b.cell) = x1 ∧ x1.setCell ⟨B, 1, none⟩ (.int .i64 b.n) = x2 ∧
    W.cell? ⟨B, 0, none⟩ = some (.bool b0.cell) ∧ W.frozen? ⟨B, 0, none⟩ = false ∧ x1.cell? ⟨B, 1, none⟩ = some (.int .i64 b0.n) ∧ x1.frozen? ⟨B, 1, none⟩ = false ∧ BoxB x2 B b ∧ Only (fun k => k = B) W x2 := by
  have f : ∀ i, W.frozen? ⟨B, i, none⟩ = false := fun i => by simp [World.frozen?, show W.heap[B]? = _ from h]
  have h1 := heap_setCell_same W B 0 _ 24 (.bool b.cell) h
  have h2 := heap_setCell_same _ B 1 _ 24 (.int .i64 b.n) h1
  refine ⟨_, _, rfl, rfl, cell_of_row W B 0 _ 24 (0, 0) h, f 0, cell_of_row _ B 1 _ 24 (0, 0) h1, ?_, h2, ?_⟩
  · rw [World.frozen?_setCell]; exact f 1
  · exact ((Only.refl (fun k => k = B) W).setCell _ _ fun _ => rfl).setCell _ _ fun _ => rfl
theorem results_place {tmps : Array Value} {W : World} {B : Nat} {b : Bs} {is : Bool} (h : BoxB W B b) (t6 : tmps[6]?.getD undef = .pointer (some ⟨B, 0, none⟩)) (t7 : tmps[7]?.getD undef = .bool is) :
    (results Tryz.f104 tmps).run Tryz.prog W = .ok (.tuple #[bsV b, .bool is]) W := by
  have c0 := cell_of_row W B 0 _ 24 (0, 0) h
  have c1 := cell_of_row W B 1 _ 24 (0, 0) h
  simp at c0 c1
  simp [results, Tryz.results104, t6, t7, go_sem, loadVar, c0, c1, bsV]

def placeR (o : Option Bs) : Bs × Bool := match o with | none => (zeroBs, false) | some b => (b, true)
theorem place_root {a : Ar} : placeR (placeOf a 0 0) = (a.root, true) := by unfold placeOf; rw [if_pos ⟨rfl, rfl⟩]; rfl
theorem place_none {a : Ar} {id arg : Int} (h0 : ¬ (id = 0 ∧ arg = 0)) (h : ¬ (1 ≤ id ∧ id ≤ a.ids.length)) : placeR (placeOf a id arg) = (zeroBs, false) := by
  unfold placeOf; rw [if_neg h0, if_pos (by omega)]; rfl
theorem place_self {a : Ar} {i : Nat} {t : Ty} (h : a.ids[i]? = some t) : placeR (placeOf a ((i : Int) + 1) 0) = (t.result, true) := by
  unfold placeOf
  have := (List.getElem?_eq_some_iff.1 h).1
  rw [if_neg (by omega), if_neg (by omega), show ((i : Int) + 1).toNat - 1 = i by omega, h]; rfl
theorem place_out {a : Ar} {i : Nat} {t : Ty} {arg : Int} (h : a.ids[i]? = some t) (h0 : arg ≠ 0) (hn : ¬ (1 ≤ arg ∧ arg ≤ t.params.length)) : placeR (placeOf a ((i : Int) + 1) arg) = (zeroBs, false) := by
  unfold placeOf
  have := (List.getElem?_eq_some_iff.1 h).1
  rw [if_neg (by omega), if_neg (by omega), show ((i : Int) + 1).toNat - 1 = i by omega, h]
  simp only
  rw [if_neg h0, if_pos (by omega)]; rfl
theorem place_par {a : Ar} {i j : Nat} {t : Ty} {b : Bs} (h : a.ids[i]? = some t) (hb : t.params[j]? = some b) : placeR (placeOf a ((i : Int) + 1) ((j : Int) + 1)) = (b, true) := by
  unfold placeOf
  have := (List.getElem?_eq_some_iff.1 h).1
  have := (List.getElem?_eq_some_iff.1 hb).1
  rw [if_neg (by omega), if_neg (by omega), show ((i : Int) + 1).toNat - 1 = i by omega, h]
  simp only
  rw [if_neg (by omega), if_neg (by omega), show ((j : Int) + 1).toNat - 1 = j by omega, hb]; rfl

set_option maxRecDepth 100000 in
set_option maxHeartbeats 1000000 in
theorem refPlace_any (v : Value) (a : Ar) (id arg : Int) (w : World) (hl : a.ids.length ≤ 1000) (hpl : ∀ t ∈ a.ids, t.params.length ≤ 1000) (hv : TyIn w w.heap.size v a.ids) :
    Calls Tryz.prog 104 #[arV v a.root a.jumps, .int .i64 id, .int .i64 arg] w fun e w' => e = .returned (.tuple #[bsV (placeR (placeOf a id arg)).1, .bool (placeR (placeOf a id arg)).2]) ∧ Below w.heap.size w w' := by
  obtain ⟨A, c, rfl, hA⟩ := hv
  have HA := Lib.hid hA
  have HPL := Lib.hid hpl
  obtain ⟨w1, hw1⟩ : ∃ w1, (w.alloc (.cells #[.slice A a.ids.length c, .bool a.root.cell, .int .i64 a.root.n, .bool a.jumps] 26)).alloc (.cells #[.bool false, .int .i64 0] 24) = w1 := ⟨_, rfl⟩
  have hsz : w1.heap.size = w.heap.size + 2 := by rw [← hw1]; simp
  have hb : Below w.heap.size w w1 := by rw [← hw1]; exact ((Below.refl _ w).alloc (Nat.le_refl _) _).alloc (by simp) _
  have x0 : BoxA w1 w.heap.size (.slice A a.ids.length c) a.root a.jumps := by rw [← hw1]; exact (Below.heap_alloc _ _ _ (by simp)).trans (World.alloc_heap_new w _)
  have x1 : BoxB w1 (w.heap.size + 1) zeroBs := by
    rw [← hw1]
    have := World.alloc_heap_new (w.alloc (.cells #[.slice A a.ids.length c, .bool a.root.cell, .int .i64 a.root.n, .bool a.jumps] 26)) (.cells #[.bool false, .int .i64 0] 24); rwa [World.size_alloc] at this
  have HB := Lib.hid hb
  have HS := Lib.hid hsz
  have HX1 := Lib.hid x1
  have c0 := cell_of_row w1 _ 0 _ 26 (0, 0) x0
  have c1 := cell_of_row w1 _ 1 _ 26 (0, 0) x0
  have c2 := cell_of_row w1 _ 2 _ 26 (0, 0) x0
  have CI := Lib.hid (in_any id 1 a.ids.length)
  unfold arV
  clear hA hb hsz x0 x1 hpl
  by_cases h0 : id = 0 ∧ arg = 0
  · obtain ⟨rfl, rfl⟩ := h0
    rw [place_root]
    obtain ⟨y1, y2, e1, e2, s0, f0, s1, f1, hy, ho⟩ := chain24 HX1.out a.root
    have HY := Lib.hid hy
    have HO := Lib.hid ho
    clear hy ho
    go_enter Tryz.func104, Tryz.ntmps104
    go_wp2
    refine bodyPost_ret (results_place HY.out rfl rfl) rfl ?_
    exact ⟨rfl, HB.out.trans (HO.out.below _ HB.out.size (fun b hb h => by omega))⟩
  · have hg : ((id == 0) && (arg == 0)) = false := by
      rw [Bool.and_eq_false_iff]
      rcases Classical.em (id = 0) with h | h
      · exact .inr (by simpa using fun e => h0 ⟨h, e⟩)
      · exact .inl (by simpa using h)
    by_cases hin : 1 ≤ id ∧ id ≤ a.ids.length
    · obtain ⟨i, rfl⟩ : ∃ i : Nat, id = (i : Int) + 1 := ⟨(id - 1).toNat, by omega⟩
      obtain ⟨t, ht⟩ : ∃ t, a.ids[i]? = some t := ⟨_, List.getElem?_eq_getElem (by omega)⟩
      have hil : i < a.ids.length := by omega
      rw [show inB ((i : Int) + 1) 1 a.ids.length = true by unfold inB; simp; omega] at CI
      obtain ⟨b, off, pv, rfl, hbn, hbs, d0, d1, d2⟩ := HA.out i t ht
      replace d0 := (World.cell?_of_block (HB.out.block b hbn)).trans d0
      replace d1 := (World.cell?_of_block (HB.out.block b hbn)).trans d1
      replace d2 := (World.cell?_of_block (HB.out.block b hbn)).trans d2
      obtain ⟨A', c', rfl, hA'⟩ := hbs
      have HA' := Lib.hid hA'
      have HT := Lib.hid ht
      have hw1' : IntKind.i64.wrap ((i : Int) + 1 - 1) = i := by rw [IntKind.wrap_i64]; omega
      have hw2' : IntKind.i64.wrap (i : Int) = i := by rw [IntKind.wrap_i64]; omega
      have hq0 : ((i : Int) + 1 == 0) = false := by simp; omega
      obtain ⟨w3, hw3⟩ : ∃ w3, w1.alloc (.cells #[.slice A' t.params.length c', .bool t.result.cell, .int .i64 t.result.n] 64) = w3 := ⟨_, rfl⟩
      have y0 : w3.heap[w1.heap.size]? = some (.cells #[.slice A' t.params.length c', .bool t.result.cell, .int .i64 t.result.n] 64 (0, 0)) := by rw [← hw3]; exact World.alloc_heap_new w1 _
      have y1 : BoxB w3 (w.heap.size + 1) zeroBs := by rw [← hw3]; exact (Below.heap_alloc _ _ _ HX1.out.lt).trans HX1.out
      have hb3 : Below w.heap.size w w3 := by rw [← hw3]; exact HB.out.alloc HB.out.size _
      have g0 := cell_of_row w3 _ 0 _ 64 (0, 0) y0
      have g1 := cell_of_row w3 _ 1 _ 64 (0, 0) y0
      have g2 := cell_of_row w3 _ 2 _ 64 (0, 0) y0
      have HB3 := Lib.hid hb3
      have HY1 := Lib.hid y1
      clear ht hA' h0 hg hin y0 y1 hb3
      by_cases ha : arg = 0
      · subst ha
        rw [place_self HT.out]
        obtain ⟨y1, y2, e1, e2, s0, f0, s1, f1, hy, ho⟩ := chain24 HY1.out t.result
        have HY := Lib.hid hy
        have HO := Lib.hid ho
        clear hy ho
        go_enter Tryz.func104, Tryz.ntmps104
        go_wp2_with (go_at_call 105; refine (CI.out _).mono ?_; rintro e w2 ⟨rfl, rfl⟩)
        refine bodyPost_ret (results_place HY.out rfl rfl) rfl ?_
        exact ⟨rfl, HB3.out.trans (HO.out.below _ HB3.out.size (fun b hb h => by omega))⟩
      · have hq1 : (arg == 0) = false := by simpa using ha
        have CJ := Lib.hid (in_any arg 1 t.params.length)
        by_cases hin : 1 ≤ arg ∧ arg ≤ t.params.length
        · obtain ⟨j, rfl⟩ : ∃ j : Nat, arg = (j : Int) + 1 := ⟨(arg - 1).toNat, by omega⟩
          obtain ⟨x, hx⟩ : ∃ x, t.params[j]? = some x := ⟨_, List.getElem?_eq_getElem (by omega)⟩
          have hjl : j < t.params.length := by omega
          rw [show inB ((j : Int) + 1) 1 t.params.length = true by unfold inB; simp; omega] at CJ
          rw [place_par HT.out hx]
          obtain ⟨b', off', rfl, hbn', k0, k1⟩ := HA'.out j x hx
          replace k0 := (World.cell?_of_block (HB3.out.block b' hbn')).trans k0
          replace k1 := (World.cell?_of_block (HB3.out.block b' hbn')).trans k1
          have HPT : t.params.length ≤ 1000 := HPL.out t (List.mem_of_getElem? HT.out)
          have hw3' : IntKind.i64.wrap ((j : Int) + 1 - 1) = j := by rw [IntKind.wrap_i64]; omega
          have hw4' : IntKind.i64.wrap (j : Int) = j := by rw [IntKind.wrap_i64]; omega
          obtain ⟨y1, y2, e1, e2, s0, f0, s1, f1, hy, ho⟩ := chain24 HY1.out x
          have HY := Lib.hid hy
          have HO := Lib.hid ho
          clear hy ho hx hin ha
          go_enter Tryz.func104, Tryz.ntmps104
          go_wp2_with (go_at_call 105; first | (with_reducible refine (CI.out _).mono ?_); rintro e w2 ⟨rfl, rfl⟩ | (with_reducible refine (CJ.out _).mono ?_); rintro e w2 ⟨rfl, rfl⟩)
          refine bodyPost_ret (results_place HY.out rfl rfl) rfl ?_
          exact ⟨rfl, HB3.out.trans (HO.out.below _ HB3.out.size (fun b hb h => by omega))⟩
        · rw [show inB arg 1 t.params.length = false by unfold inB; simp; omega] at CJ
          rw [place_out HT.out ha hin]
          obtain ⟨y1, y2, e1, e2, s0, f0, s1, f1, hy, ho⟩ := chain24 HY1.out zeroBs
          have HY := Lib.hid hy
          have HO := Lib.hid ho
          unfold zeroBs at e1 e2
          dsimp only at e1 e2
          clear hy ho hin ha
          go_enter Tryz.func104, Tryz.ntmps104
          go_wp2_with (go_at_call 105; first | (with_reducible refine (CI.out _).mono ?_); rintro e w2 ⟨rfl, rfl⟩ | (with_reducible refine (CJ.out _).mono ?_); rintro e w2 ⟨rfl, rfl⟩)
          refine bodyPost_ret (results_place HY.out rfl rfl) rfl ?_
          exact ⟨rfl, HB3.out.trans (HO.out.below _ HB3.out.size (fun b hb h => by omega))⟩
    · rw [show inB id 1 a.ids.length = false by unfold inB; simp; omega] at CI
      rw [place_none h0 hin]
      obtain ⟨y1, y2, e1, e2, s0, f0, s1, f1, hy, ho⟩ := chain24 HX1.out zeroBs
      have HY := Lib.hid hy
      have HO := Lib.hid ho
      unfold zeroBs at e1 e2
      dsimp only at e1 e2
      clear hy ho hin
      by_cases h1 : id = 0
      · subst h1
        have h2 : (arg == 0) = false := by simpa using fun e => h0 ⟨rfl, e⟩
        clear h0 hg
        go_enter Tryz.func104, Tryz.ntmps104
        go_wp2_with (go_at_call 105; refine (CI.out _).mono ?_; rintro e w2 ⟨rfl, rfl⟩)
        refine bodyPost_ret (results_place HY.out rfl rfl) rfl ?_
        exact ⟨rfl, HB.out.trans (HO.out.below _ HB.out.size (fun b hb h => by omega))⟩
      · have h2 : (id == 0) = false := by simpa using h1
        clear h0 hg h1
        go_enter Tryz.func104, Tryz.ntmps104
        go_wp2_with (go_at_call 105; refine (CI.out _).mono ?_; rintro e w2 ⟨rfl, rfl⟩)
        refine bodyPost_ret (results_place HY.out rfl rfl) rfl ?_
        exact ⟨rfl, HB.out.trans (HO.out.below _ HB.out.size (fun b hb h => by omega))⟩
end Go.Proofs.YtklfojmflmablaaGreatDoor
/- The reference: Found. -/
namespace Go.Proofs.YtklfojmflmablaaGreatDoor
open Go Go.RowKit Go.Shelf

theorem results_found {tmps : Array Value} {W : World} {B : Nat} {b : Bs} {e : Int} (h : BoxB W B b) (t6 : tmps[6]?.getD undef = .pointer (some ⟨B, 0, none⟩)) (t7 : tmps[7]?.getD undef = .int .i64 e) :
    (results Tryz.f38 tmps).run Tryz.prog W = .ok (.tuple #[bsV b, .int .i64 e]) W := by
  have c0 := cell_of_row W B 0 _ 24 (0, 0) h
  have c1 := cell_of_row W B 1 _ 24 (0, 0) h
  simp at c0 c1
  simp [results, Tryz.results38, t6, t7, go_sem, loadVar, c0, c1, bsV]
/-- What the document says of a place. -/
def foundRes (a : Ar) (id arg : Int) : Bs × Int := if checkRes a ≠ 0 then (zeroBs, checkRes a) else match placeOf a id arg with | none => (zeroBs, 7) | some b => (b, 0)

/-- Behind the reference's Place: its answer has been stored, and the result's block is ready. -/
theorem found_arm {W3 : World} {B : Nat} (h : BoxB W3 B zeroBs) (b r : Bs) : ∃ W4 x1 x2 : World, W3.alloc (.cells #[.bool b.cell, .int .i64 b.n] 24) = W4 ∧ W4.cell? ⟨W3.heap.size, 0, none⟩ = some (.bool b.cell) ∧ W4.cell? ⟨W3.heap.size, 1, none⟩ = some (.int .i64 b.n) ∧
    W4.setCell ⟨B, 0, none⟩ (.bool r.cell) = x1 ∧ x1.setCell ⟨B, 1, none⟩ (.int .i64 r.n) = x2 ∧
    W4.cell? ⟨B, 0, none⟩ = some (.bool zeroBs.cell) ∧ W4.frozen? ⟨B, 0, none⟩ = false ∧ x1.cell? ⟨B, 1, none⟩ = some (.int .i64 zeroBs.n) ∧ x1.frozen? ⟨B, 1, none⟩ = false ∧ Hid (BoxB x2 B r) ∧ Hid (Below B W3 x2) := by
  have z : BoxB (W3.alloc (.cells #[.bool b.cell, .int .i64 b.n] 24)) B zeroBs := (Below.heap_alloc _ _ _ h.lt).trans h
  obtain ⟨x1, x2, e1, e2, s0, f0, s1, f1, hy, ho⟩ := chain24 z r
  have hn : (W3.alloc (.cells #[.bool b.cell, .int .i64 b.n] 24)).heap[W3.heap.size]? = some (.cells #[.bool b.cell, .int .i64 b.n] 24 (0, 0)) := World.alloc_heap_new W3 _
  have hb : Below B W3 (W3.alloc (.cells #[.bool b.cell, .int .i64 b.n] 24)) := ((Below.refl _ W3).mono (Nat.le_of_lt h.lt)).alloc (Nat.le_of_lt h.lt) _
  exact ⟨_, x1, x2, rfl, cell_of_row _ _ 0 _ 24 (0, 0) hn, cell_of_row _ _ 1 _ 24 (0, 0) hn, e1, e2, s0, f0, s1, f1, Lib.hid hy, Lib.hid (hb.trans (ho.below _ (by have := hb.size; have := h.lt; omega) (fun b hb h => by omega)))⟩

set_option maxRecDepth 100000 in
set_option maxHeartbeats 1000000 in
theorem refFound_any (v : Value) (a : Ar) (id arg : Int) (w : World) (hl : a.ids.length ≤ 1000) (hpl : ∀ t ∈ a.ids, t.params.length ≤ 1000) (hv : TyIn w w.heap.size v a.ids) :
    Calls Tryz.prog 38 #[arV v a.root a.jumps, .int .i64 id, .int .i64 arg] w fun e w' => e = .returned (.tuple #[bsV (foundRes a id arg).1, .int .i64 (foundRes a id arg).2]) ∧ Below w.heap.size w w' := by
  have CC : Hid (∀ W, Below w.heap.size w W → Calls Tryz.prog 25 #[arV v a.root a.jumps] W fun e w' => e = .returned (.int .i64 (checkRes a)) ∧ Below W.heap.size W w') :=
    Lib.hid fun W hW => refCheck_any v a W hl hpl (tyIn_later hv hW)
  have CP : Hid (∀ W, Below w.heap.size w W → Calls Tryz.prog 104 #[arV v a.root a.jumps, .int .i64 id, .int .i64 arg] W fun e w' => e = .returned (.tuple #[bsV (placeR (placeOf a id arg)).1, .bool (placeR (placeOf a id arg)).2]) ∧ Below W.heap.size W w') :=
    Lib.hid fun W hW => refPlace_any v a id arg W hl hpl (tyIn_later hv hW)
  obtain ⟨A, c, rfl⟩ := tyIn_slice hv
  obtain ⟨w1, hw1⟩ : ∃ w1, (w.alloc (.cells #[.slice A a.ids.length c, .bool a.root.cell, .int .i64 a.root.n, .bool a.jumps] 26)).alloc (.cells #[.bool false, .int .i64 0] 24) = w1 := ⟨_, rfl⟩
  have hb : Below w.heap.size w w1 := by rw [← hw1]; exact ((Below.refl _ w).alloc (Nat.le_refl _) _).alloc (by simp) _
  have x0 : BoxA w1 w.heap.size (.slice A a.ids.length c) a.root a.jumps := by rw [← hw1]; exact (Below.heap_alloc _ _ _ (by simp)).trans (World.alloc_heap_new w _)
  have x1 : BoxB w1 (w.heap.size + 1) zeroBs := by
    rw [← hw1]
    have := World.alloc_heap_new (w.alloc (.cells #[.slice A a.ids.length c, .bool a.root.cell, .int .i64 a.root.n, .bool a.jumps] 26)) (.cells #[.bool false, .int .i64 0] 24); rwa [World.size_alloc] at this
  have HB := Lib.hid hb
  have HX0 := Lib.hid x0
  have HX1 := Lib.hid x1
  have c0 := cell_of_row w1 _ 0 _ 26 (0, 0) x0
  have c1 := cell_of_row w1 _ 1 _ 26 (0, 0) x0
  have c2 := cell_of_row w1 _ 2 _ 26 (0, 0) x0
  have c3 := cell_of_row w1 _ 3 _ 26 (0, 0) x0
  unfold arV at CC CP ⊢
  clear hb x0 x1 hv hpl
  by_cases hck : checkRes a = 0
  · rw [hck] at CC
    have hne : ((0 : Int) != 0) = false := rfl
    cases hp : placeOf a id arg with
    | none =>
      have HR : Hid (foundRes a id arg = (zeroBs, 7)) := Lib.hid (by unfold foundRes; rw [if_neg (by rw [hck]; simp), hp])
      rw [hp] at CP
      unfold placeR bsV zeroBs at CP
      clear hck hp
      go_enter Tryz.func38, Tryz.ntmps38
      go_wp2_with (first
        | (go_at_call 25; refine (CC.out _ HB.out).mono ?_; rintro e w2 ⟨rfl, hb2⟩; have z0 : BoxA w2 _ _ _ _ := (hb2.block _ HX0.out.lt).trans HX0.out; have q0 := cell_of_row w2 _ 0 _ 26 (0, 0) z0; have q1 := cell_of_row w2 _ 1 _ 26 (0, 0) z0; have q2 := cell_of_row w2 _ 2 _ 26 (0, 0) z0; have q3 := cell_of_row w2 _ 3 _ 26 (0, 0) z0; clear z0)
        | (go_at_call 104; refine (CP.out _ (HB.out.trans (hb2.mono HB.out.size))).mono ?_; rintro e w3 ⟨rfl, hb3⟩; obtain ⟨_, x1, x2, rfl, m0, m1, e1, e2, s0, f0, s1, f1, hy, ho⟩ := found_arm (((hb2.trans (hb3.mono hb2.size)).block _ HX1.out.lt).trans HX1.out) zeroBs zeroBs; unfold zeroBs at e1 e2 m0 m1 s0 s1 f0; dsimp only at e1 e2 m0 m1 s0 s1 f0))
      refine bodyPost_ret (results_found hy.out rfl rfl) rfl ?_
      rw [HR.out]
      exact ⟨rfl, HB.out.trans (((hb2.trans (hb3.mono hb2.size)).mono HB.out.size).trans (ho.out.mono (Nat.le_succ _)))⟩
    | some b =>
      have HR : Hid (foundRes a id arg = (b, 0)) := Lib.hid (by unfold foundRes; rw [if_neg (by rw [hck]; simp), hp])
      rw [hp] at CP
      unfold placeR bsV at CP
      dsimp only at CP
      clear hck hp
      go_enter Tryz.func38, Tryz.ntmps38
      go_wp2_with (first
        | (go_at_call 25; refine (CC.out _ HB.out).mono ?_; rintro e w2 ⟨rfl, hb2⟩; have z0 : BoxA w2 _ _ _ _ := (hb2.block _ HX0.out.lt).trans HX0.out; have q0 := cell_of_row w2 _ 0 _ 26 (0, 0) z0; have q1 := cell_of_row w2 _ 1 _ 26 (0, 0) z0; have q2 := cell_of_row w2 _ 2 _ 26 (0, 0) z0; have q3 := cell_of_row w2 _ 3 _ 26 (0, 0) z0; clear z0)
        | (go_at_call 104; refine (CP.out _ (HB.out.trans (hb2.mono HB.out.size))).mono ?_; rintro e w3 ⟨rfl, hb3⟩; obtain ⟨W4, x1, x2, e0, m0, m1, e1, e2, s0, f0, s1, f1, hy, ho⟩ := found_arm (((hb2.trans (hb3.mono hb2.size)).block _ HX1.out.lt).trans HX1.out) b b))
      refine bodyPost_ret (results_found hy.out rfl rfl) rfl ?_
      rw [HR.out]
      exact ⟨rfl, HB.out.trans (((hb2.trans (hb3.mono hb2.size)).mono HB.out.size).trans (ho.out.mono (Nat.le_succ _)))⟩
  · have HR : Hid (foundRes a id arg = (zeroBs, checkRes a)) := Lib.hid (by unfold foundRes; rw [if_pos hck])
    have hne : (checkRes a != 0) = true := by simpa using hck
    clear hck
    go_enter Tryz.func38, Tryz.ntmps38
    go_wp2_with (go_at_call 25; refine (CC.out _ HB.out).mono ?_; rintro e w2 ⟨rfl, hb2⟩; obtain ⟨x1, x2, e1, e2, s0, f0, s1, f1, hy, ho⟩ := chain24 ((hb2.block _ HX1.out.lt).trans HX1.out) zeroBs; unfold zeroBs at e1 e2 s0 s1; dsimp only at e1 e2 s0 s1; have HY := Lib.hid hy; have HO := Lib.hid ho; clear hy ho)
    refine bodyPost_ret (results_found HY.out rfl rfl) rfl ?_
    rw [HR.out]
    exact ⟨rfl, HB.out.trans ((hb2.mono HB.out.size).trans (HO.out.below _ (Nat.le_trans HB.out.size hb2.size) (fun b hb h => by omega)))⟩
end Go.Proofs.YtklfojmflmablaaGreatDoor
/- The reference: Inner. -/
namespace Go.Proofs.YtklfojmflmablaaGreatDoor
open Go Go.RowKit Go.Shelf
attribute [local go_sem ↓] append_shut

theorem results_refInner {tmps : Array Value} {W : World} {B : Nat} {v : Value} {root : Bs} {ju : Bool} {e : Int} (h : BoxA W B v root ju) (t4 : tmps[4]?.getD undef = .pointer (some ⟨B, 0, none⟩)) (t5 : tmps[5]?.getD undef = .int .i64 e) :
    (results Tryz.f39 tmps).run Tryz.prog W = .ok (.tuple #[arV v root ju, .int .i64 e]) W := by
  have c0 := cell_of_row W B 0 _ 26 (0, 0) h
  have c1 := cell_of_row W B 1 _ 26 (0, 0) h
  have c2 := cell_of_row W B 2 _ 26 (0, 0) h
  have c3 := cell_of_row W B 3 _ 26 (0, 0) h
  simp at c0 c1 c2 c3
  simp [results, Tryz.results39, t4, t5, go_sem, loadVar, c0, c1, c2, c3, arV]

def plainTy (b : Bs) : Ty := ⟨[], b⟩
theorem copy_slice {W : World} {n0 B : Nat} {u : Value} {zs : List (Value × Ty)} {root : Bs} {ju : Bool} (h : CopyInv W n0 B u zs root ju) : ∃ uA un uc, u = .slice uA un uc := by
  rcases h.2.1.2 with ⟨rfl, _⟩ | ⟨g, cap, cur, rfl, _⟩
  · exact ⟨_, _, _, rfl⟩
  · exact ⟨_, _, _, rfl⟩

set_option maxRecDepth 100000 in
set_option maxHeartbeats 2000000 in
theorem refInner_ok (v : Value) (ids : List Ty) (root : Bs) (ju : Bool) (i : Nat) (t : Ty) (w : World) (hck : checkRes ⟨ids, root, ju⟩ = 0) (ht : ids[i]? = some t) (hv : TyIn w w.heap.size v ids) :
    Calls Tryz.prog 39 #[arV v root ju, .int .i64 ((i : Int) + 1)] w fun e w' => ∃ v', e = .returned (.tuple #[arV v' t.result (ju || decide (0 < t.params.length)), .int .i64 0]) ∧ TyIn w' w'.heap.size v' (t.params.map plainTy) ∧ Below w.heap.size w w' := by
  have hs := (check_small hck).1
  have hil : i < ids.length := (List.getElem?_eq_some_iff.1 ht).1
  have hl8 : ids.length ≤ 8 := hs.1
  have hpl5 : t.params.length ≤ 5 := hs.2 t (List.mem_of_getElem? ht)
  have CC : Hid (∀ W, Below w.heap.size w W → Calls Tryz.prog 25 #[arV v root ju] W fun e w' => e = .returned (.int .i64 0) ∧ Below W.heap.size W w') :=
    Lib.hid fun W hW => by
      have := refCheck_any v ⟨ids, root, ju⟩ W (by simp; omega) (fun t ht => by have := hs.2 t ht; omega) (tyIn_later hv hW)
      rw [hck] at this
      exact this
  have CI := Lib.hid (in_any ((i : Int) + 1) 1 ids.length)
  rw [show inB ((i : Int) + 1) 1 ids.length = true by unfold inB; simp; omega] at CI
  obtain ⟨A, c, rfl, hA⟩ := hv
  obtain ⟨b, off, pv, rfl, hbn, hbs, d0, d1, d2⟩ := hA i t ht
  obtain ⟨A', c', rfl, hA'⟩ := hbs
  have HA' := Lib.hid hA'
  have HD : Hid (w.cell? ⟨b, off + i * 3, none⟩ = some (.slice A' t.params.length c') ∧ w.cell? ⟨b, off + i * 3 + 1, none⟩ = some (.bool t.result.cell) ∧ w.cell? ⟨b, off + i * 3 + 2, none⟩ = some (.int .i64 t.result.n)) := Lib.hid ⟨d0, d1, d2⟩
  obtain ⟨w1, hw1⟩ : ∃ w1, (w.alloc (.cells #[.slice (some ⟨b, off, none⟩) ids.length c, .bool root.cell, .int .i64 root.n, .bool ju] 26)).alloc (.cells #[.slice none 0 0, .bool false, .int .i64 0, .bool false] 26) = w1 := ⟨_, rfl⟩
  have hb : Below w.heap.size w w1 := by rw [← hw1]; exact ((Below.refl _ w).alloc (Nat.le_refl _) _).alloc (by simp) _
  have x0 : BoxA w1 w.heap.size (.slice (some ⟨b, off, none⟩) ids.length c) root ju := by rw [← hw1]; exact (Below.heap_alloc _ _ _ (by simp)).trans (World.alloc_heap_new w _)
  have x1 : BoxA w1 (w.heap.size + 1) (.slice none 0 0) ⟨false, 0⟩ false := by
    rw [← hw1]; have := World.alloc_heap_new (w.alloc (.cells #[.slice (some ⟨b, off, none⟩) ids.length c, .bool root.cell, .int .i64 root.n, .bool ju] 26)) (.cells #[.slice none 0 0, .bool false, .int .i64 0, .bool false] 26); rwa [World.size_alloc] at this
  have HB := Lib.hid hb
  have HX0 := Lib.hid x0
  have HX1 := Lib.hid x1
  have c0 := cell_of_row w1 _ 0 _ 26 (0, 0) x0
  have c1 := cell_of_row w1 _ 1 _ 26 (0, 0) x0
  have c2 := cell_of_row w1 _ 2 _ 26 (0, 0) x0
  have c3 := cell_of_row w1 _ 3 _ 26 (0, 0) x0
  have hw1' : IntKind.i64.wrap ((i : Int) + 1 - 1) = i := by rw [IntKind.wrap_i64]; omega
  have hw2' : IntKind.i64.wrap (i : Int) = i := by rw [IntKind.wrap_i64]; omega
  have hne : ((0 : Int) != 0) = false := rfl
  have HBN := Lib.hid hbn
  unfold arV at CC ⊢
  clear hA hA' hb x0 x1 ht hs hck d0 d1 d2 hbn
  obtain ⟨n, hn⟩ : ∃ n, t.params.length = n := ⟨_, rfl⟩
  have HN := Lib.hid hn
  rw [hn] at hpl5 HD ⊢
  clear hn
  obtain ⟨J, hJ⟩ : ∃ J, (ju || decide (0 < n)) = J := ⟨_, rfl⟩
  rw [hJ]
  have hju : (ju = true ∧ J = true) ∨ (ju = false ∧ J = decide (0 < n)) := by
    cases ju
    · exact .inr ⟨rfl, by rw [← hJ]; simp⟩
    · exact .inl ⟨rfl, by rw [← hJ]; simp⟩
  clear hJ
  rcases hju with ⟨rfl, rfl⟩ | ⟨rfl, rfl⟩
  · go_enter Tryz.func39, Tryz.ntmps39
    go_wp2_with (first
      | (go_at_call 25; refine (CC.out _ HB.out).mono ?_; rintro e w2 ⟨rfl, hb2⟩; have z0 : BoxA w2 _ _ _ _ := (hb2.block _ HX0.out.lt).trans HX0.out; have q0 := cell_of_row w2 _ 0 _ 26 (0, 0) z0; have q3 := cell_of_row w2 _ 3 _ 26 (0, 0) z0; have HB2 := Lib.hid (HB.out.trans (hb2.mono HB.out.size)); have HX2 : Hid (BoxA w2 _ _ _ _) := Lib.hid ((hb2.block _ HX1.out.lt).trans HX1.out); have g0 := (HB2.out.cell (p := ⟨b, off + i * 3, none⟩) HBN.out).trans HD.out.1; have g1 := (HB2.out.cell (p := ⟨b, off + i * 3 + 1, none⟩) HBN.out).trans HD.out.2.1; have g2 := (HB2.out.cell (p := ⟨b, off + i * 3 + 2, none⟩) HBN.out).trans HD.out.2.2; have z5 : BoxA (w2.alloc (.cells #[.slice A' n c', .bool t.result.cell, .int .i64 t.result.n] 64)) _ _ _ _ := (Below.heap_alloc _ _ _ z0.lt).trans z0; have r3 := cell_of_row _ _ 3 _ 26 (0, 0) z5; have z6 : (w2.alloc (.cells #[.slice A' n c', .bool t.result.cell, .int .i64 t.result.n] 64)).heap[w2.heap.size]? = _ := World.alloc_heap_new w2 _; have s0 := cell_of_row _ _ 0 _ 64 (0, 0) z6; have s1 := cell_of_row _ _ 1 _ 64 (0, 0) z6; have s2 := cell_of_row _ _ 2 _ 64 (0, 0) z6; clear z0 z5 z6 hb2)
      | (go_at_call 105; refine (CI.out _).mono ?_; rintro e w3 ⟨rfl, rfl⟩))
    have hx4 := copy_new (n0 := w2.heap.size + 2) (World.alloc_heap_new (w2.alloc (.cells #[.slice A' n c', .bool t.result.cell, .int .i64 t.result.n] 64)) (.cells #[.slice none 0 0, .bool t.result.cell, .int .i64 t.result.n, .bool true] 26))
    have hz4 : ((w2.alloc (.cells #[.slice A' n c', .bool t.result.cell, .int .i64 t.result.n] 64)).alloc (.cells #[.slice none 0 0, .bool t.result.cell, .int .i64 t.result.n, .bool true] 26)).heap[w2.heap.size]? = some (.cells #[.slice A' n c', .bool t.result.cell, .int .i64 t.result.n] 64 (0, 0)) := (Below.heap_alloc _ _ _ (by simp)).trans (World.alloc_heap_new w2 _)
    have hy4 : BoxA ((w2.alloc (.cells #[.slice A' n c', .bool t.result.cell, .int .i64 t.result.n] 64)).alloc (.cells #[.slice none 0 0, .bool t.result.cell, .int .i64 t.result.n, .bool true] 26)) (w.heap.size + 1) (.slice none 0 0) ⟨false, 0⟩ false := (Below.heap_alloc _ _ _ (by have := HX2.out.lt; simp; omega)).trans ((Below.heap_alloc _ _ _ HX2.out.lt).trans HX2.out)
    have hb4 := ((HB2.out.alloc HB2.out.size (.cells #[.slice A' n c', .bool t.result.cell, .int .i64 t.result.n] 64)).alloc (by have := HB2.out.size; simp; omega) (.cells #[.slice none 0 0, .bool t.result.cell, .int .i64 t.result.n, .bool true] 26))
    rw [World.size_alloc] at hx4
    have HX4 := Lib.hid hx4
    have HZ4 := Lib.hid hz4
    have HY4 := Lib.hid hy4
    have HB4 := Lib.hid hb4
    have HLT : Hid (w.heap.size + 1 < w2.heap.size) := Lib.hid HX2.out.lt
    clear hx4 hz4 hy4 hb4 q0 q3 g0 g1 g2 r3 s0 s1 s2
    go_loopw [9] (fun k wr => ∃ (j : Nat) (u : Value) (zs : List (Value × Ty)), k = .int .i64 j ∧ j ≤ n ∧ Hid (zs.map Prod.snd = (t.params.take j).map plainTy) ∧ Hid (CopyInv wr (w2.heap.size + 2) (w2.heap.size + 1) u zs t.result true) ∧ Hid (Below w.heap.size w wr) ∧ Hid (wr.heap[w2.heap.size]? = some (.cells #[.slice A' n c', .bool t.result.cell, .int .i64 t.result.n] 64 (0, 0))) ∧ Hid (BoxA wr (w.heap.size + 1) (.slice none 0 0) ⟨false, 0⟩ false)) (fun k _ => n - (intOf k).toNat)
    case atStart => exact ⟨0, _, [], rfl, Nat.zero_le _, Lib.hid rfl, HX4, HB4, HZ4, HY4⟩
    case round =>
      obtain ⟨j, u, zs, rfl, hj, HZ, HI, hB, hY0, hY1⟩ := hrel
      have c0 := cell_of_row wr _ 0 _ 64 (0, 0) hY0.out
      have c1 := cell_of_row wr _ 1 _ 64 (0, 0) hY0.out
      have c2 := cell_of_row wr _ 2 _ 64 (0, 0) hY0.out
      have hzl : zs.length = j := by have := congrArg List.length HZ.out; have h2 := HN.out; simp at this; omega
      have HZL := Lib.hid hzl
      have HS3 : Hid (w2.heap.size + 2 ≤ wr.heap.size) := Lib.hid (by have := HI.out.1.lt; omega)
      obtain ⟨uA, un, uc, rfl⟩ := copy_slice HI.out
      have x0 := HI.out.1
      have d0 := cell_of_row wr _ 0 _ 26 (0, 0) x0
      have d1 := cell_of_row wr _ 1 _ 26 (0, 0) x0
      have d2 := cell_of_row wr _ 2 _ 26 (0, 0) x0
      have d3 := cell_of_row wr _ 3 _ 26 (0, 0) x0
      clear hzl x0
      by_cases hlt : j < n
      · obtain ⟨y, hy⟩ : ∃ y, t.params[j]? = some y := ⟨_, List.getElem?_eq_getElem (by have := HN.out; omega)⟩
        obtain ⟨b', off', rfl, hbn', e0, e1⟩ := HA'.out j y hy
        have HW : Hid (∀ b, b < w.heap.size → wr.heap[b]? = w.heap[b]?) := Lib.hid hB.out.block
        replace e0 := (World.cell?_of_block (HW.out b' hbn')).trans e0
        replace e1 := (World.cell?_of_block (HW.out b' hbn')).trans e1
        obtain ⟨k1, k2, g', cap', w8, hrun, k3, k4, HST, HB8⟩ := copy_arm (x := plainTy y) (pv' := .slice none 0 0) (W6 := wr.drew) (by omega) HS3.out (by have := HZL.out; omega) HI.out (Below.refl _ wr).drew (World.ownsRow_nil _ _ _ _) rfl
        unfold plainTy at k2 hrun
        dsimp only at k2 hrun
        have HY := Lib.hid hy
        clear hy
        rw [show wr.drew.heap.size = wr.heap.size from rfl, show wr.drew.alloc (.cells #[.slice none 0 0, .bool y.cell, .int .i64 y.n] 64) = (wr.alloc (.cells #[.slice none 0 0, .bool y.cell, .int .i64 y.n] 64)).drew from rfl] at hrun
        rw [show wr.drew.alloc (.cells #[.slice none 0 0, .bool y.cell, .int .i64 y.n] 64) = (wr.alloc (.cells #[.slice none 0 0, .bool y.cell, .int .i64 y.n] 64)).drew from rfl] at k2
        go_wp2_with fail
        go_region
        all_goals go_wp2
        all_goals refine ⟨⟨j + 1, _, _, by simp, by omega, Lib.hid ?_, HST, Lib.hid (hB.out.trans (HB8.out.mono (by have := HLT.out; omega))), Lib.hid ((HB8.out.block _ (by omega)).trans hY0.out), Lib.hid ((HB8.out.block _ (by have := HLT.out; omega)).trans hY1.out)⟩, by simp [intOf]; omega⟩
        all_goals rw [List.map_append, HZ.out, take_snoc HY.out, List.map_append]
        all_goals rfl
      · obtain rfl : n = j := by omega
        obtain ⟨x1, x2, x3, x4, e1, e2, e3, e4, s0, f0, s1, f1, s2, f2, s3, f3, hx4, ho⟩ := chain26 hY1.out (.slice uA un uc) t.result true
        have HX4 := Lib.hid hx4
        have HO := Lib.hid ho
        have HI2 := Lib.hid (copy_only HI.out ho (by have := HLT.out; omega) (by have := HLT.out; omega))
        clear hx4 ho
        go_wp2
        refine bodyPost_ret (results_refInner HX4.out rfl rfl) rfl ?_
        refine ⟨_, rfl, ?_, hB.out.trans (HO.out.below _ hB.out.size (fun b hb h => by omega))⟩
        have := copy_done HI2.out
        rwa [HZ.out, ← HN.out, List.take_length] at this
  · go_enter Tryz.func39, Tryz.ntmps39
    go_wp2_with (first
      | (go_at_call 25; refine (CC.out _ HB.out).mono ?_; rintro e w2 ⟨rfl, hb2⟩; have z0 : BoxA w2 _ _ _ _ := (hb2.block _ HX0.out.lt).trans HX0.out; have q0 := cell_of_row w2 _ 0 _ 26 (0, 0) z0; have q3 := cell_of_row w2 _ 3 _ 26 (0, 0) z0; have HB2 := Lib.hid (HB.out.trans (hb2.mono HB.out.size)); have HX2 : Hid (BoxA w2 _ _ _ _) := Lib.hid ((hb2.block _ HX1.out.lt).trans HX1.out); have g0 := (HB2.out.cell (p := ⟨b, off + i * 3, none⟩) HBN.out).trans HD.out.1; have g1 := (HB2.out.cell (p := ⟨b, off + i * 3 + 1, none⟩) HBN.out).trans HD.out.2.1; have g2 := (HB2.out.cell (p := ⟨b, off + i * 3 + 2, none⟩) HBN.out).trans HD.out.2.2; have z5 : BoxA (w2.alloc (.cells #[.slice A' n c', .bool t.result.cell, .int .i64 t.result.n] 64)) _ _ _ _ := (Below.heap_alloc _ _ _ z0.lt).trans z0; have r3 := cell_of_row _ _ 3 _ 26 (0, 0) z5; have z6 : (w2.alloc (.cells #[.slice A' n c', .bool t.result.cell, .int .i64 t.result.n] 64)).heap[w2.heap.size]? = _ := World.alloc_heap_new w2 _; have s0 := cell_of_row _ _ 0 _ 64 (0, 0) z6; have s1 := cell_of_row _ _ 1 _ 64 (0, 0) z6; have s2 := cell_of_row _ _ 2 _ 64 (0, 0) z6; clear z0 z5 z6 hb2)
      | (go_at_call 105; refine (CI.out _).mono ?_; rintro e w3 ⟨rfl, rfl⟩))
    have hx4 := copy_new (n0 := w2.heap.size + 2) (World.alloc_heap_new (w2.alloc (.cells #[.slice A' n c', .bool t.result.cell, .int .i64 t.result.n] 64)) (.cells #[.slice none 0 0, .bool t.result.cell, .int .i64 t.result.n, .bool (decide (0 < n))] 26))
    have hz4 : ((w2.alloc (.cells #[.slice A' n c', .bool t.result.cell, .int .i64 t.result.n] 64)).alloc (.cells #[.slice none 0 0, .bool t.result.cell, .int .i64 t.result.n, .bool (decide (0 < n))] 26)).heap[w2.heap.size]? = some (.cells #[.slice A' n c', .bool t.result.cell, .int .i64 t.result.n] 64 (0, 0)) := (Below.heap_alloc _ _ _ (by simp)).trans (World.alloc_heap_new w2 _)
    have hy4 : BoxA ((w2.alloc (.cells #[.slice A' n c', .bool t.result.cell, .int .i64 t.result.n] 64)).alloc (.cells #[.slice none 0 0, .bool t.result.cell, .int .i64 t.result.n, .bool (decide (0 < n))] 26)) (w.heap.size + 1) (.slice none 0 0) ⟨false, 0⟩ false := (Below.heap_alloc _ _ _ (by have := HX2.out.lt; simp; omega)).trans ((Below.heap_alloc _ _ _ HX2.out.lt).trans HX2.out)
    have hb4 := ((HB2.out.alloc HB2.out.size (.cells #[.slice A' n c', .bool t.result.cell, .int .i64 t.result.n] 64)).alloc (by have := HB2.out.size; simp; omega) (.cells #[.slice none 0 0, .bool t.result.cell, .int .i64 t.result.n, .bool (decide (0 < n))] 26))
    rw [World.size_alloc] at hx4
    have HX4 := Lib.hid hx4
    have HZ4 := Lib.hid hz4
    have HY4 := Lib.hid hy4
    have HB4 := Lib.hid hb4
    have HLT : Hid (w.heap.size + 1 < w2.heap.size) := Lib.hid HX2.out.lt
    clear hx4 hz4 hy4 hb4 q0 q3 g0 g1 g2 r3 s0 s1 s2
    go_loopw [9] (fun k wr => ∃ (j : Nat) (u : Value) (zs : List (Value × Ty)), k = .int .i64 j ∧ j ≤ n ∧ Hid (zs.map Prod.snd = (t.params.take j).map plainTy) ∧ Hid (CopyInv wr (w2.heap.size + 2) (w2.heap.size + 1) u zs t.result (decide (0 < n))) ∧ Hid (Below w.heap.size w wr) ∧ Hid (wr.heap[w2.heap.size]? = some (.cells #[.slice A' n c', .bool t.result.cell, .int .i64 t.result.n] 64 (0, 0))) ∧ Hid (BoxA wr (w.heap.size + 1) (.slice none 0 0) ⟨false, 0⟩ false)) (fun k _ => n - (intOf k).toNat)
    case atStart => exact ⟨0, _, [], rfl, Nat.zero_le _, Lib.hid rfl, HX4, HB4, HZ4, HY4⟩
    case round =>
      obtain ⟨j, u, zs, rfl, hj, HZ, HI, hB, hY0, hY1⟩ := hrel
      have c0 := cell_of_row wr _ 0 _ 64 (0, 0) hY0.out
      have c1 := cell_of_row wr _ 1 _ 64 (0, 0) hY0.out
      have c2 := cell_of_row wr _ 2 _ 64 (0, 0) hY0.out
      have hzl : zs.length = j := by have := congrArg List.length HZ.out; have h2 := HN.out; simp at this; omega
      have HZL := Lib.hid hzl
      have HS3 : Hid (w2.heap.size + 2 ≤ wr.heap.size) := Lib.hid (by have := HI.out.1.lt; omega)
      obtain ⟨uA, un, uc, rfl⟩ := copy_slice HI.out
      have x0 := HI.out.1
      have d0 := cell_of_row wr _ 0 _ 26 (0, 0) x0
      have d1 := cell_of_row wr _ 1 _ 26 (0, 0) x0
      have d2 := cell_of_row wr _ 2 _ 26 (0, 0) x0
      have d3 := cell_of_row wr _ 3 _ 26 (0, 0) x0
      clear hzl x0
      by_cases hlt : j < n
      · obtain ⟨y, hy⟩ : ∃ y, t.params[j]? = some y := ⟨_, List.getElem?_eq_getElem (by have := HN.out; omega)⟩
        obtain ⟨b', off', rfl, hbn', e0, e1⟩ := HA'.out j y hy
        have HW : Hid (∀ b, b < w.heap.size → wr.heap[b]? = w.heap[b]?) := Lib.hid hB.out.block
        replace e0 := (World.cell?_of_block (HW.out b' hbn')).trans e0
        replace e1 := (World.cell?_of_block (HW.out b' hbn')).trans e1
        obtain ⟨k1, k2, g', cap', w8, hrun, k3, k4, HST, HB8⟩ := copy_arm (x := plainTy y) (pv' := .slice none 0 0) (W6 := wr.drew) (by omega) HS3.out (by have := HZL.out; omega) HI.out (Below.refl _ wr).drew (World.ownsRow_nil _ _ _ _) rfl
        unfold plainTy at k2 hrun
        dsimp only at k2 hrun
        have HY := Lib.hid hy
        clear hy
        rw [show wr.drew.heap.size = wr.heap.size from rfl, show wr.drew.alloc (.cells #[.slice none 0 0, .bool y.cell, .int .i64 y.n] 64) = (wr.alloc (.cells #[.slice none 0 0, .bool y.cell, .int .i64 y.n] 64)).drew from rfl] at hrun
        rw [show wr.drew.alloc (.cells #[.slice none 0 0, .bool y.cell, .int .i64 y.n] 64) = (wr.alloc (.cells #[.slice none 0 0, .bool y.cell, .int .i64 y.n] 64)).drew from rfl] at k2
        go_wp2_with fail
        go_region
        all_goals go_wp2
        all_goals refine ⟨⟨j + 1, _, _, by simp, by omega, Lib.hid ?_, HST, Lib.hid (hB.out.trans (HB8.out.mono (by have := HLT.out; omega))), Lib.hid ((HB8.out.block _ (by omega)).trans hY0.out), Lib.hid ((HB8.out.block _ (by have := HLT.out; omega)).trans hY1.out)⟩, by simp [intOf]; omega⟩
        all_goals rw [List.map_append, HZ.out, take_snoc HY.out, List.map_append]
        all_goals rfl
      · obtain rfl : n = j := by omega
        obtain ⟨x1, x2, x3, x4, e1, e2, e3, e4, s0, f0, s1, f1, s2, f2, s3, f3, hx4, ho⟩ := chain26 hY1.out (.slice uA un uc) t.result (decide (0 < n))
        have HX4 := Lib.hid hx4
        have HO := Lib.hid ho
        have HI2 := Lib.hid (copy_only HI.out ho (by have := HLT.out; omega) (by have := HLT.out; omega))
        clear hx4 ho
        go_wp2
        refine bodyPost_ret (results_refInner HX4.out rfl rfl) rfl ?_
        refine ⟨_, rfl, ?_, hB.out.trans (HO.out.below _ hB.out.size (fun b hb h => by omega))⟩
        have := copy_done HI2.out
        rwa [HZ.out, ← HN.out, List.take_length] at this
end Go.Proofs.YtklfojmflmablaaGreatDoor
/- The reference: Inner, whatever the number. -/
namespace Go.Proofs.YtklfojmflmablaaGreatDoor
open Go Go.RowKit Go.Shelf

set_option maxRecDepth 100000 in
set_option maxHeartbeats 1000000 in
theorem refInner_err (v : Value) (a : Ar) (id : Int) (w : World) (hl : a.ids.length ≤ 1000) (hpl : ∀ t ∈ a.ids, t.params.length ≤ 1000) (hv : TyIn w w.heap.size v a.ids) (herr : checkRes a ≠ 0 ∨ ¬ (1 ≤ id ∧ id ≤ a.ids.length)) (er : Int) (her : er = if checkRes a ≠ 0 then checkRes a else 7) :
    Calls Tryz.prog 39 #[arV v a.root a.jumps, .int .i64 id] w fun e w' => e = .returned (.tuple #[arV (.slice none 0 0) ⟨false, 0⟩ false, .int .i64 er]) ∧ Below w.heap.size w w' := by
  have CC : Hid (∀ W, Below w.heap.size w W → Calls Tryz.prog 25 #[arV v a.root a.jumps] W fun e w' => e = .returned (.int .i64 (checkRes a)) ∧ Below W.heap.size W w') :=
    Lib.hid fun W hW => refCheck_any v a W hl hpl (tyIn_later hv hW)
  have CI := Lib.hid (in_any id 1 a.ids.length)
  obtain ⟨A, c, rfl⟩ := tyIn_slice hv
  obtain ⟨w1, hw1⟩ : ∃ w1, (w.alloc (.cells #[.slice A a.ids.length c, .bool a.root.cell, .int .i64 a.root.n, .bool a.jumps] 26)).alloc (.cells #[.slice none 0 0, .bool false, .int .i64 0, .bool false] 26) = w1 := ⟨_, rfl⟩
  have hb : Below w.heap.size w w1 := by rw [← hw1]; exact ((Below.refl _ w).alloc (Nat.le_refl _) _).alloc (by simp) _
  have x0 : BoxA w1 w.heap.size (.slice A a.ids.length c) a.root a.jumps := by rw [← hw1]; exact (Below.heap_alloc _ _ _ (by simp)).trans (World.alloc_heap_new w _)
  have x1 : BoxA w1 (w.heap.size + 1) (.slice none 0 0) ⟨false, 0⟩ false := by
    rw [← hw1]; have := World.alloc_heap_new (w.alloc (.cells #[.slice A a.ids.length c, .bool a.root.cell, .int .i64 a.root.n, .bool a.jumps] 26)) (.cells #[.slice none 0 0, .bool false, .int .i64 0, .bool false] 26); rwa [World.size_alloc] at this
  have HB := Lib.hid hb
  have HX0 := Lib.hid x0
  have HX1 := Lib.hid x1
  have c0 := cell_of_row w1 _ 0 _ 26 (0, 0) x0
  have c1 := cell_of_row w1 _ 1 _ 26 (0, 0) x0
  have c2 := cell_of_row w1 _ 2 _ 26 (0, 0) x0
  have c3 := cell_of_row w1 _ 3 _ 26 (0, 0) x0
  unfold arV at CC ⊢
  clear hb x0 x1 hv hpl
  by_cases hck : checkRes a = 0
  · rw [hck] at CC
    have hid := herr.resolve_left (fun h => h hck)
    rw [show inB id 1 a.ids.length = false by unfold inB; simp; omega] at CI
    rw [if_neg (by rw [hck]; simp)] at her
    subst her
    have hne : ((0 : Int) != 0) = false := rfl
    clear hck herr hid
    go_enter Tryz.func39, Tryz.ntmps39
    go_wp2_with (first
      | (go_at_call 25; refine (CC.out _ HB.out).mono ?_; rintro e w2 ⟨rfl, hb2⟩; have z0 : BoxA w2 _ _ _ _ := (hb2.block _ HX0.out.lt).trans HX0.out; have q0 := cell_of_row w2 _ 0 _ 26 (0, 0) z0; obtain ⟨x1, x2, x3, x4, e1, e2, e3, e4, s0, f0, s1, f1, s2, f2, s3, f3, hx4, ho⟩ := chain26 ((hb2.block _ HX1.out.lt).trans HX1.out) (.slice none 0 0) ⟨false, 0⟩ false; have HX4 := Lib.hid hx4; have HO := Lib.hid ho; clear hx4 ho z0)
      | (go_at_call 105; refine (CI.out _).mono ?_; rintro e w3 ⟨rfl, rfl⟩))
    refine bodyPost_ret (results_refInner HX4.out rfl rfl) rfl ?_
    exact ⟨rfl, HB.out.trans ((hb2.mono HB.out.size).trans (HO.out.below _ (Nat.le_trans HB.out.size hb2.size) (fun b hb h => by omega)))⟩
  · rw [if_pos hck] at her
    subst her
    have hne : (checkRes a != 0) = true := by simpa using hck
    clear hck herr
    go_enter Tryz.func39, Tryz.ntmps39
    go_wp2_with (go_at_call 25; refine (CC.out _ HB.out).mono ?_; rintro e w2 ⟨rfl, hb2⟩; obtain ⟨x1, x2, x3, x4, e1, e2, e3, e4, s0, f0, s1, f1, s2, f2, s3, f3, hx4, ho⟩ := chain26 ((hb2.block _ HX1.out.lt).trans HX1.out) (.slice none 0 0) ⟨false, 0⟩ false; have HX4 := Lib.hid hx4; have HO := Lib.hid ho; clear hx4 ho)
    refine bodyPost_ret (results_refInner HX4.out rfl rfl) rfl ?_
    exact ⟨rfl, HB.out.trans ((hb2.mono HB.out.size).trans (HO.out.below _ (Nat.le_trans HB.out.size hb2.size) (fun b hb h => by omega)))⟩

theorem refInner_any (v : Value) (a : Ar) (id : Int) (w : World) (hl : a.ids.length ≤ 1000) (hpl : ∀ t ∈ a.ids, t.params.length ≤ 1000) (hv : TyIn w w.heap.size v a.ids) :
    Calls Tryz.prog 39 #[arV v a.root a.jumps, .int .i64 id] w fun e w' => ∃ v', e = .returned (.tuple #[arV v' (innerRes a id).1.root (innerRes a id).1.jumps, .int .i64 (innerRes a id).2]) ∧ TyIn w' w'.heap.size v' (innerRes a id).1.ids ∧ Below w.heap.size w w' := by
  by_cases herr : checkRes a ≠ 0 ∨ ¬ (1 ≤ id ∧ id ≤ a.ids.length)
  · have e : innerRes a id = (zeroAr, if checkRes a ≠ 0 then checkRes a else 7) := by
      unfold innerRes
      by_cases hc : checkRes a ≠ 0
      · rw [if_pos hc, if_pos hc]
      · rw [if_neg hc, if_neg hc, if_pos (by have := herr.resolve_left hc; omega)]
    rw [e]
    refine (refInner_err v a id w hl hpl hv herr _ rfl).mono ?_
    rintro e w' ⟨rfl, hb⟩
    exact ⟨_, rfl, ⟨none, 0, rfl, fun i x hx => by simp [zeroAr] at hx⟩, hb⟩
  · have hc : checkRes a = 0 := Classical.not_not.1 fun h => herr (.inl h)
    have h1 : 1 ≤ id ∧ id ≤ a.ids.length := Classical.not_not.1 fun h => herr (.inr h)
    obtain ⟨i, rfl⟩ : ∃ i : Nat, id = (i : Int) + 1 := ⟨(id - 1).toNat, by omega⟩
    have hi : i < a.ids.length := by omega
    have ht : a.ids[((i : Int) + 1).toNat - 1]? = some a.ids[i] := by rw [show ((i : Int) + 1).toNat - 1 = i by omega]; exact List.getElem?_eq_getElem hi
    have e : innerRes a ((i : Int) + 1) = (⟨(a.ids[i]).params.map fun b => ⟨[], b⟩, (a.ids[i]).result, a.jumps || decide (0 < (a.ids[i]).params.length)⟩, 0) := by
      unfold innerRes
      rw [if_neg (by rw [hc]; simp), if_neg (by omega), ht]
    rw [e]
    exact refInner_ok v a.ids a.root a.jumps i _ w hc (List.getElem?_eq_getElem hi) hv
end Go.Proofs.YtklfojmflmablaaGreatDoor
