/- The reference: copies. -/
import Derived.BigRegion
import Derived.Maps.AppendAt
import Derived.Test.YtklfojmflmablaaGreatDoorGi
import Derived.Test.YtklfojmflmablaaGreatDoorIn
/- The reference: copies of types. -/
namespace Go.Proofs.YtklfojmflmablaaGreatDoor
open Go Go.RowKit Go.Shelf

theorem flat_get {α : Type} (cs : α → List Value) (k : Nat) (hk : ∀ x, (cs x).length = k) : ∀ (l : List α) (j : Nat) u, (l.flatMap cs)[j]? = some u → ∃ i x r, l[i]? = some x ∧ (cs x)[r]? = some u ∧ j = i * k + r
  | [], j, u, h => by simp at h
  | x :: l, j, u, h => by
    rw [List.flatMap_cons] at h
    by_cases hj : j < k
    · rw [List.getElem?_append_left (by rw [hk]; exact hj)] at h
      exact ⟨0, x, j, rfl, h, by omega⟩
    · rw [List.getElem?_append_right (by rw [hk]; omega), hk] at h
      obtain ⟨i, y, r, h1, h2, h3⟩ := flat_get cs k hk l (j - k) u h
      refine ⟨i + 1, y, r, by simpa using h1, h2, ?_⟩
      rw [Nat.add_mul, Nat.one_mul]
      omega
theorem rowIn_of_own {α : Type} (cs : α → List Value) (k : Nat) (hk : ∀ x, (cs x).length = k) {W : World} {n₀ : Nat} {e : TypeId} {v : Value} {l : List α} (h : W.ownsRow n₀ e k v l.length (l.flatMap cs)) : RowIn cs k W W.heap.size v l := by
  rcases h.2 with ⟨rfl, h0⟩ | ⟨g, cap, cur, rfl, hb, hg, hcap, _, hsz, htake⟩
  · refine ⟨none, 0, by rw [h0], fun i x hx => ?_⟩
    have : l = [] := List.length_eq_zero_iff.1 h0
    subst this
    simp at hx
  · refine ⟨some ⟨g, 0, none⟩, cap, rfl, fun i x hx => ?_⟩
    have hlt : g < W.heap.size := (Array.getElem?_eq_some_iff.1 hg).1
    refine ⟨g, 0, rfl, hlt, fun j u hu => ?_⟩
    have hf : (l.flatMap cs)[i * k + j]? = some u := cells_get cs k hk l i x hx j u hu
    rw [← htake, List.getElem?_take] at hf
    split at hf
    · rw [Nat.zero_add, cell_of_row W g _ cur e (0, 0) hg]
      simpa using hf
    · cases hf
theorem bsIn_of_row {W : World} {n : Nat} {v : Value} {l : List Bs} (h : RowIn bsCells 2 W n v l) : BsIn W n v l := by
  obtain ⟨A, c, rfl, hA⟩ := h
  refine ⟨A, c, rfl, fun i x hx => ?_⟩
  obtain ⟨b, off, rfl, hb, hc⟩ := hA i x hx
  exact ⟨b, off, rfl, hb, by have := hc 0 _ rfl; simpa using this, hc 1 _ rfl⟩
theorem bsIn_own {W : World} {n₀ : Nat} {v : Value} {l : List Bs} (h : W.ownsRow n₀ 24 2 v l.length (l.flatMap bsCells)) : BsIn W W.heap.size v l := bsIn_of_row (rowIn_of_own bsCells 2 (fun _ => rfl) h)
theorem tyIn_own {W : World} {n₀ : Nat} {v : Value} {zs : List (Value × Ty)} (h : W.ownsRow n₀ 64 3 v zs.length (zs.flatMap tyCells)) (hz : ∀ z ∈ zs, BsIn W W.heap.size z.1 z.2.params) : TyIn W W.heap.size v (zs.map Prod.snd) := by
  obtain ⟨A, c, rfl, hA⟩ := rowIn_of_own tyCells 3 (fun _ => rfl) h
  refine ⟨A, c, by rw [List.length_map], fun i x hx => ?_⟩
  rw [List.getElem?_map, Option.map_eq_some_iff] at hx
  obtain ⟨z, hzi, rfl⟩ := hx
  obtain ⟨b, off, rfl, hb, hc⟩ := hA i z hzi
  exact ⟨b, off, z.1, rfl, hb, hz z (List.mem_of_getElem? hzi), by have := hc 0 _ rfl; simpa using this, hc 1 _ rfl, hc 2 _ rfl⟩

theorem info24 : (Tryz.prog.info? 24).map (fun i => (i.zero, i.size, i.bytes)) = some (some (.agg #[.bool false, .int .i64 0]), 2, 16) := by kernel_rfl
theorem own_empty (W : World) (e : TypeId) (size n : Nat) (hn : n ≤ W.heap.size) : (W.alloc (.cells #[] e)).ownsRow n e size (.slice (some ⟨W.heap.size, 0, none⟩) 0 0) 0 [] :=
  ⟨by simp, .inr ⟨W.heap.size, 0, #[], rfl, hn, World.alloc_heap_new W _, Nat.le_refl _, by unfold maxLen; omega, by simp, by simp⟩⟩

theorem rowOnly {W W' : World} {n₀ k size B : Nat} {e : TypeId} {v : Value} {xs : List Value} (h : W.ownsRow n₀ e size v k xs) (ho : Only (fun b => b = B) W W') (hB : B < n₀) : W'.ownsRow n₀ e size v k xs := by
  refine ⟨h.1, ?_⟩
  rcases h.2 with hn | ⟨g, cap, cur, e, hb', hg, rest⟩
  · exact .inl hn
  · exact .inr ⟨g, cap, cur, e, hb', (ho.block g (Array.getElem?_eq_some_iff.1 hg).1 (by omega)).trans hg, rest⟩
theorem rowLess {W : World} {n n' k size : Nat} {e : TypeId} {v : Value} {xs : List Value} (h : W.ownsRow n e size v k xs) (hn : n' ≤ n) : W.ownsRow n' e size v k xs := by
  refine ⟨h.1, ?_⟩
  rcases h.2 with h | ⟨g, cap, cur, e, hb, rest⟩
  · exact .inl h
  · exact .inr ⟨g, cap, cur, e, by omega, rest⟩
theorem rowAt {W : World} {n k size : Nat} {e : TypeId} {v : Value} {xs : List Value} (h : W.ownsRow n e size v k xs) {g : Nat} (hg : v.ownBlock = some g) : n ≤ g ∧ g < W.heap.size := by
  rcases h.2 with ⟨rfl, _⟩ | ⟨g', cap, cur, rfl, hb, hh, _⟩
  · cases hg
  · simp only [Value.ownBlock, Option.some.injEq] at hg
    subst hg
    exact ⟨hb, (Array.getElem?_eq_some_iff.1 hh).1⟩
/-- An append of base types that came in to an empty slice of the call's own. -/
theorem append_bases (W : World) (A : Option Addr) (c : Nat) (l : List Bs) (hl : l.length ≤ 1000) (hA : BsIn W W.heap.size (.slice A l.length c) l) :
    ∃ v' w', (Builtin.append_ #[62, 62] 62 #[.slice (some ⟨W.heap.size, 0, none⟩) 0 0, .slice A l.length c]).run Tryz.prog (W.alloc (.cells #[] 24)) = .ok v' w' ∧ w'.ownsRow W.heap.size 24 2 v' l.length (l.flatMap bsCells) ∧ Below W.heap.size W w' ∧ (∃ A' c', v' = .slice A' l.length c') := by
  obtain ⟨i0, hi, hz0, hz1, hz2⟩ := info_parts info24
  have hA' := bsIn_later hA ((Below.refl _ W).alloc (Nat.le_refl _) (.cells #[] 24))
  cases A with
  | none =>
    have hl0 : l = [] := by
      cases l with
      | nil => rfl
      | cons x l =>
        obtain ⟨A, c, e, h⟩ := hA
        obtain ⟨b, off, e2, _⟩ := h 0 x rfl
        subst e2
        cases e
    subst hl0
    have hg : (W.alloc (.cells #[] 24)).heap[W.heap.size]? = some (.cells #[] 24 (0, 0)) := World.alloc_heap_new W _
    refine ⟨.slice (some ⟨W.heap.size, 0, none⟩) 0 0, W.alloc (.cells #[] 24), ?_, own_empty W 24 2 _ (Nat.le_refl _), (Below.refl _ W).alloc (Nat.le_refl _) _, ⟨_, _, rfl⟩⟩
    simp [Builtin.append_, run_underlying Tryz.underlying62, sizeOf, typeInfo, hi, Builtin.lenOf, Builtin.firstCells, storeCells]
  | some ad =>
    have hnews : ∀ j u, (l.flatMap bsCells)[j]? = some u → (W.alloc (.cells #[] 24)).cell? (ad.add j) = some u := by
      intro j u hu
      obtain ⟨i, x, r, h1, h2, rfl⟩ := flat_get bsCells 2 (fun _ => rfl) l j u hu
      obtain ⟨A, c, e, h⟩ := bsRow hA'
      obtain ⟨b, off, e2, _, hc⟩ := h i x h1
      subst e2
      cases e
      have hadd : (⟨b, off, none⟩ : Addr).add (i * 2 + r) = ⟨b, off + (i * 2 + r), none⟩ := by unfold Addr.add; split <;> simp_all
      rw [hadd, ← Nat.add_assoc]
      exact hc r u h2
    have hlen : (l.flatMap bsCells).length = l.length * 2 := by
      clear hnews hA' hA hl
      induction l with
      | nil => rfl
      | cons x l ih => rw [List.flatMap_cons, List.length_append, ih]; simp [bsCells]; omega
    obtain ⟨v', w', h1, h2, h3, _, _⟩ := run_append_own_at (P := Tryz.prog) (W.alloc (.cells #[] 24)) W.heap.size 62 62 24 i0 _ 2 16 Tryz.underlying62 hi hz0 hz1 hz2 rfl (by decide) _ 0 [] (own_empty W 24 2 _ (Nat.le_refl _))
      ad l.length c (l.flatMap bsCells) hlen hnews (fun u hu => by
        obtain ⟨x, _, hx⟩ := List.mem_flatMap.1 hu
        simp [bsCells] at hx
        rcases hx with rfl | rfl <;> rfl) (by unfold maxLen; omega) (by omega) (by simp)
    rw [Nat.zero_add, List.nil_append] at h2
    have hb : Below W.heap.size W w' := ((Below.refl _ W).alloc (Nat.le_refl _) _).grown h3 (by simp) (fun k e => by simp [Value.ownBlock] at e; omega)
    obtain ⟨A', c', e, _⟩ := bsIn_own h2
    exact ⟨v', w', h1, h2, hb, ⟨A', c', e⟩⟩

theorem results_copyType {tmps : Array Value} {W : World} {B : Nat} {v : Value} {b : Bs} (h : W.heap[B]? = some (.cells #[v, .bool b.cell, .int .i64 b.n] 64 (0, 0))) (t2 : tmps[2]?.getD undef = .pointer (some ⟨B, 0, none⟩)) :
    (results Tryz.f66 tmps).run Tryz.prog W = .ok (tyV v b) W := by
  have c0 := cell_of_row W B 0 _ 64 (0, 0) h
  have c1 := cell_of_row W B 1 _ 64 (0, 0) h
  have c2 := cell_of_row W B 2 _ 64 (0, 0) h
  simp at c0 c1 c2
  simp [results, Tryz.results66, t2, go_sem, loadVar, c0, c1, c2, tyV]

/-- A store of a type into its block, each world a letter. -/
theorem chain64 {W : World} {B : Nat} {v0 : Value} {b0 : Bs} (h : W.heap[B]? = some (.cells #[v0, .bool b0.cell, .int .i64 b0.n] 64 (0, 0))) (v : Value) (b : Bs) : ∃ x1 x2 x3 : World,
    W.setCell ⟨B, 0, none⟩ v = x1 ∧ x1.setCell ⟨B, 1, none⟩ (.bool b.cell) = x2 ∧ x2.setCell ⟨B, 2, none⟩ (.int .i64 b.n) = x3 ∧
    W.cell? ⟨B, 0, none⟩ = some v0 ∧ W.frozen? ⟨B, 0, none⟩ = false ∧ x1.cell? ⟨B, 1, none⟩ = some (.bool b0.cell) ∧ x1.frozen? ⟨B, 1, none⟩ = false ∧ x2.cell? ⟨B, 2, none⟩ = some (.int .i64 b0.n) ∧ x2.frozen? ⟨B, 2, none⟩ = false ∧
    x3.heap[B]? = some (.cells #[v, .bool b.cell, .int .i64 b.n] 64 (0, 0)) ∧ Only (fun k => k = B) W x3 := by
  have f : ∀ i, W.frozen? ⟨B, i, none⟩ = false := fun i => by simp [World.frozen?, show W.heap[B]? = _ from h]
  have h1 := heap_setCell_same W B 0 _ 64 v h
  have h2 := heap_setCell_same _ B 1 _ 64 (.bool b.cell) h1
  have h3 := heap_setCell_same _ B 2 _ 64 (.int .i64 b.n) h2
  refine ⟨_, _, _, rfl, rfl, rfl, cell_of_row W B 0 _ 64 (0, 0) h, f 0, cell_of_row _ B 1 _ 64 (0, 0) h1, ?_, cell_of_row _ B 2 _ 64 (0, 0) h2, ?_, h3, ?_⟩
  · rw [World.frozen?_setCell]; exact f 1
  · rw [World.frozen?_setCell, World.frozen?_setCell]; exact f 2
  · exact (((Only.refl (fun k => k = B) W).setCell _ _ fun _ => rfl).setCell _ _ fun _ => rfl).setCell _ _ fun _ => rfl
end Go.Proofs.YtklfojmflmablaaGreatDoor
/- The reference: CopyType. -/
namespace Go.Proofs.YtklfojmflmablaaGreatDoor
open Go Go.RowKit Go.Shelf
attribute [local go_sem ↓] append_shut

set_option maxRecDepth 100000 in
set_option maxHeartbeats 1000000 in
theorem copyType_any (pv : Value) (x : Ty) (w : World) (hl : x.params.length ≤ 1000) (hv : BsIn w w.heap.size pv x.params) :
    Calls Tryz.prog 66 #[tyV pv x.result] w fun e w' => ∃ A' c', e = .returned (tyV (.slice A' x.params.length c') x.result) ∧ w'.ownsRow w.heap.size 24 2 (.slice A' x.params.length c') x.params.length (x.params.flatMap bsCells) ∧ Below w.heap.size w w' := by
  have HV := Lib.hid hv
  obtain ⟨A, c, rfl⟩ := bsIn_slice hv
  obtain ⟨l, r⟩ := x
  dsimp only at hl HV ⊢
  obtain ⟨w1, hw1⟩ : ∃ w1, (w.alloc (.cells #[.slice A l.length c, .bool r.cell, .int .i64 r.n] 64)).alloc (.cells #[.slice none 0 0, .bool false, .int .i64 0] 64) = w1 := ⟨_, rfl⟩
  have hb : Below w.heap.size w w1 := by rw [← hw1]; exact ((Below.refl _ w).alloc (Nat.le_refl _) _).alloc (by simp) _
  have x0 : w1.heap[w.heap.size]? = some (.cells #[.slice A l.length c, .bool r.cell, .int .i64 r.n] 64 (0, 0)) := by rw [← hw1]; exact (Below.heap_alloc _ _ _ (by simp)).trans (World.alloc_heap_new w _)
  have x1 : w1.heap[w.heap.size + 1]? = some (.cells #[.slice none 0 0, .bool false, .int .i64 0] 64 (0, 0)) := by
    rw [← hw1]; have := World.alloc_heap_new (w.alloc (.cells #[.slice A l.length c, .bool r.cell, .int .i64 r.n] 64)) (.cells #[.slice none 0 0, .bool false, .int .i64 0] 64); rwa [World.size_alloc] at this
  have HB := Lib.hid hb
  obtain ⟨_, w4, hrun, hbs, hb4, A', c', rfl⟩ := append_bases w1.drew A c l hl (bsIn_later HV.out (hb.drew))
  obtain ⟨W1, hW1⟩ : ∃ W1, w1.drew.alloc (.cells #[] 24) = W1 := ⟨_, rfl⟩
  rw [hW1, append_shut, show w1.drew.heap.size = w1.heap.size from rfl] at hrun
  have hlt0 := (Array.getElem?_eq_some_iff.1 x0).1
  have hlt1 := (Array.getElem?_eq_some_iff.1 x1).1
  have y0 : W1.heap[w.heap.size]? = some (.cells #[.slice A l.length c, .bool r.cell, .int .i64 r.n] 64 (0, 0)) := by rw [← hW1]; exact (Below.heap_alloc _ _ _ hlt0).trans x0
  have z0 : w4.heap[w.heap.size]? = some (.cells #[.slice A l.length c, .bool r.cell, .int .i64 r.n] 64 (0, 0)) := (hb4.block _ hlt0).trans x0
  have z1 : w4.heap[w.heap.size + 1]? = some (.cells #[.slice none 0 0, .bool (⟨false, 0⟩ : Bs).cell, .int .i64 (⟨false, 0⟩ : Bs).n] 64 (0, 0)) := (hb4.block _ hlt1).trans x1
  have c0 := cell_of_row w1 _ 0 _ 64 (0, 0) x0
  have c1 := cell_of_row w1 _ 1 _ 64 (0, 0) x0
  have c2 := cell_of_row w1 _ 2 _ 64 (0, 0) x0
  have d0 := cell_of_row W1 _ 0 _ 64 (0, 0) y0
  have d1 := cell_of_row W1 _ 1 _ 64 (0, 0) y0
  have d2 := cell_of_row W1 _ 2 _ 64 (0, 0) y0
  have f0 := cell_of_row w4 _ 0 _ 64 (0, 0) z0
  have f1 := cell_of_row w4 _ 1 _ 64 (0, 0) z0
  have f2 := cell_of_row w4 _ 2 _ 64 (0, 0) z0
  obtain ⟨x1, x2, x3, e1, e2, e3, s0, t0, s1, t1, s2, t2, hz, ho⟩ := chain64 z1 (.slice A' l.length c') r
  have HZ := Lib.hid hz
  have HL1 := Lib.hid hlt1
  have HO := Lib.hid ho
  have HBS := Lib.hid hbs
  have HB4 := Lib.hid hb4
  unfold tyV
  clear hb x0 y0 z0 z1 hz ho hbs hb4 hlt0 hlt1 hv
  go_enter Tryz.func66, Tryz.ntmps66
  go_wp2
  go_region
  all_goals go_wp2
  all_goals refine bodyPost_ret (results_copyType (b := r) HZ.out rfl) rfl ?_
  all_goals refine ⟨_, _, rfl, rowLess (rowOnly HBS.out HO.out HL1.out) HB.out.size, HB.out.trans (((((Below.refl _ w1).drew).trans HB4.out).mono HB.out.size).trans (HO.out.below _ (Nat.le_trans HB.out.size HB4.out.size) (fun b hb h => by omega)))⟩
end Go.Proofs.YtklfojmflmablaaGreatDoor
/- The reference: Copy. -/
namespace Go.Proofs.YtklfojmflmablaaGreatDoor
open Go Go.RowKit Go.Shelf
attribute [local go_sem ↓] append_shut

/-- What the loops that make types have come to. -/
def CopyInv (W : World) (n0 B : Nat) (v : Value) (zs : List (Value × Ty)) (root : Bs) (ju : Bool) : Prop :=
  BoxA W B v root ju ∧ W.ownsRow n0 64 3 v zs.length (zs.flatMap tyCells) ∧ ∀ z ∈ zs, W.ownsRow n0 24 2 z.1 z.2.params.length (z.2.params.flatMap bsCells) ∧ (z.1.ownBlock = none ∨ z.1.ownBlock ≠ v.ownBlock)
theorem copy_new {W : World} {n0 B : Nat} {root : Bs} {ju : Bool} (h : BoxA W B (.slice none 0 0) root ju) : CopyInv W n0 B (.slice none 0 0) [] root ju :=
  ⟨h, World.ownsRow_nil _ _ _ _, fun z hz => by cases hz⟩
theorem copy_step {W W6 w8 : World} {n0 B : Nat} {o : Obj} {v pv' v' : Value} {zs : List (Value × Ty)} {x : Ty} {root : Bs} {ju : Bool} (hB : B < n0) (hn : n0 ≤ W.heap.size) (hi : CopyInv W n0 B v zs root ju)
    (h6 : Below W.heap.size W W6) (hp : W6.ownsRow W.heap.size 24 2 pv' x.params.length (x.params.flatMap bsCells)) (hown' : w8.ownsRow n0 64 3 v' (zs.length + 1) (zs.flatMap tyCells ++ tyCells (pv', x)))
    (hgrow : (W6.alloc o).grownBy w8 v.ownBlock) (hat : v'.ownBlock = v.ownBlock ∨ v'.ownBlock = some (W6.alloc o).heap.size) : CopyInv (w8.setCell ⟨B, 0, none⟩ v') n0 B v' (zs ++ [(pv', x)]) root ju := by
  obtain ⟨h1, h2, h3⟩ := hi
  have hs6 := h6.size
  have hvB : some B ≠ v.ownBlock := fun e => by have := (rowAt h2 e.symm).1; omega
  have b8 : BoxA w8 B v root ju := (hgrow.block B (by have := h1.lt; simp; omega) hvB).trans ((Below.heap_alloc _ _ _ (by have := h1.lt; omega)).trans ((h6.block _ h1.lt).trans h1))
  have o9 : Only (fun b => b = B) w8 (w8.setCell ⟨B, 0, none⟩ v') := (Only.refl (fun k => k = B) w8).setCell _ _ fun _ => rfl
  have hv0 : ∀ g, v.ownBlock = some g → g < W.heap.size := fun g hg => (rowAt h2 hg).2
  have hv9 : ∀ g, v'.ownBlock = some g → v.ownBlock = some g ∨ g = W6.heap.size + 1 := fun g hg => by
    rcases hat with h | h
    · exact .inl (h ▸ hg)
    · rw [h] at hg; simp at hg; exact .inr hg.symm
  refine ⟨heap_setCell_same _ B 0 _ 26 v' b8, ?_, fun z hz => ?_⟩
  · rw [List.length_append, List.flatMap_append, List.flatMap_cons, List.flatMap_nil, List.append_nil]
    exact rowOnly hown' o9 hB
  · rcases List.mem_append.1 hz with hz | hz
    · obtain ⟨hr, hne⟩ := h3 z hz
      have r7 : (W6.alloc o).ownsRow n0 24 2 z.1 z.2.params.length (z.2.params.flatMap bsCells) := (row_below hr h6).alloc _
      refine ⟨rowOnly (r7.kept hgrow hne) o9 hB, ?_⟩
      rcases hne with h | h
      · exact .inl h
      · refine .inr fun e => ?_
        cases hz1 : z.1.ownBlock with
        | none =>
          rw [hz1] at e h
          rcases hat with h' | h'
          · rw [← e] at h'; exact h h'
          · rw [h'] at e; cases e
        | some g =>
          rw [hz1] at e h
          rcases hv9 g e.symm with h' | h'
          · exact h h'.symm
          · have := (rowAt hr hz1).2; omega
    · obtain rfl : z = (pv', x) := by simpa using hz
      have r7 : (W6.alloc o).ownsRow n0 24 2 pv' x.params.length (x.params.flatMap bsCells) := rowLess (hp.alloc _) hn
      have hne : pv'.ownBlock = none ∨ pv'.ownBlock ≠ v.ownBlock := by
        cases hp1 : pv'.ownBlock with
        | none => exact .inl rfl
        | some g =>
          refine .inr fun e => ?_
          have h1 := (rowAt hp hp1).1
          have h2 := hv0 g e.symm
          omega
      refine ⟨rowOnly (r7.kept hgrow hne) o9 hB, ?_⟩
      rcases hne with h | h
      · exact .inl h
      · cases hp1 : pv'.ownBlock with
        | none => exact .inl rfl
        | some g =>
          refine .inr fun e => ?_
          rcases hv9 g e.symm with h' | h'
          · exact h (hp1.trans h'.symm)
          · have := (rowAt hp hp1).2; omega
theorem copy_done {W : World} {n0 B : Nat} {v : Value} {zs : List (Value × Ty)} {root : Bs} {ju : Bool} (h : CopyInv W n0 B v zs root ju) : TyIn W W.heap.size v (zs.map Prod.snd) :=
  tyIn_own h.2.1 fun z hz => bsIn_own (h.2.2 z hz).1
theorem copy_below {W W' : World} {n0 B : Nat} {v : Value} {zs : List (Value × Ty)} {root : Bs} {ju : Bool} (h : CopyInv W n0 B v zs root ju) (hb : Below W.heap.size W W') : CopyInv W' n0 B v zs root ju :=
  ⟨(hb.block _ h.1.lt).trans h.1, row_below h.2.1 hb, fun z hz => ⟨row_below (h.2.2 z hz).1 hb, (h.2.2 z hz).2⟩⟩
theorem copy_only {W W' : World} {n0 B C : Nat} {v : Value} {zs : List (Value × Ty)} {root : Bs} {ju : Bool} (h : CopyInv W n0 B v zs root ju) (ho : Only (fun b => b = C) W W') (hC : C < n0) (hne : B ≠ C) : CopyInv W' n0 B v zs root ju :=
  ⟨(ho.block _ h.1.lt hne).trans h.1, rowOnly h.2.1 ho hC, fun z hz => ⟨rowOnly (h.2.2 z hz).1 ho hC, (h.2.2 z hz).2⟩⟩

/-- An element more, behind a call that has made its params. -/
theorem copy_arm {W W6 : World} {n0 B : Nat} {v pv' : Value} {zs : List (Value × Ty)} {x : Ty} {root : Bs} {ju : Bool} (hB : B < n0) (hn : n0 ≤ W.heap.size) (hl : zs.length ≤ 1000) (hi : CopyInv W n0 B v zs root ju)
    (h6 : Below W.heap.size W W6) (hp : W6.ownsRow W.heap.size 24 2 pv' x.params.length (x.params.flatMap bsCells)) (h1 : pv'.oneCell' = true) :
    W6.cell? ⟨B, 0, none⟩ = some v ∧ (W6.alloc (.cells #[pv', .bool x.result.cell, .int .i64 x.result.n] 64)).cell? ⟨B, 0, none⟩ = some v ∧
    ∃ g cap w8, (appShut #[22, 22] 22 #[v, .slice (some ⟨W6.heap.size, 0, none⟩) 1 1]).run Tryz.prog (W6.alloc (.cells #[pv', .bool x.result.cell, .int .i64 x.result.n] 64)) = .ok (.slice (some ⟨g, 0, none⟩) (zs.length + 1) cap) w8 ∧
      w8.cell? ⟨B, 0, none⟩ = some v ∧ w8.frozen? ⟨B, 0, none⟩ = false ∧ Hid (CopyInv (w8.setCell ⟨B, 0, none⟩ (.slice (some ⟨g, 0, none⟩) (zs.length + 1) cap)) n0 B (.slice (some ⟨g, 0, none⟩) (zs.length + 1) cap) (zs ++ [(pv', x)]) root ju) ∧
      Hid (Below B W (w8.setCell ⟨B, 0, none⟩ (.slice (some ⟨g, 0, none⟩) (zs.length + 1) cap))) := by
  obtain ⟨i0, hi0, hz0, hz1, hz2⟩ := info_parts info64
  have z6 : BoxA W6 B v root ju := (h6.block _ hi.1.lt).trans hi.1
  have hs6 := h6.size
  have z7 : BoxA (W6.alloc (.cells #[pv', .bool x.result.cell, .int .i64 x.result.n] 64)) B v root ju := (Below.heap_alloc _ _ _ z6.lt).trans z6
  obtain ⟨v', w8, hrun, hown', hgrow, _, hat⟩ := run_append_own_at (P := Tryz.prog) (W6.alloc (.cells #[pv', .bool x.result.cell, .int .i64 x.result.n] 64)) n0 22 22 64 i0 _ 3 40 Tryz.underlying22 hi0 hz0 hz1 hz2 rfl (by decide) v zs.length (zs.flatMap tyCells)
    ((row_below hi.2.1 h6).alloc _) ⟨W6.heap.size, 0, none⟩ 1 1 (tyCells (pv', x)) rfl (cells_newE _ _ _) (by
      intro u hu
      simp only [tyCells, List.mem_cons, List.not_mem_nil, or_false] at hu
      rcases hu with rfl | rfl | rfl
      · exact h1
      · rfl
      · rfl) (by unfold maxLen; omega) (by omega) (by simp; omega)
  obtain ⟨g, cap, rfl⟩ := ownsRow_succ hown'
  have hrow : ∀ k, v.ownBlock = some k → n0 ≤ k := fun k e => (rowAt hi.2.1 e).1
  have z8 : BoxA w8 B v root ju := (hgrow.block _ z7.lt (fun e => by have := hrow _ e.symm; omega)).trans z7
  refine ⟨cell_of_row W6 _ 0 _ 26 (0, 0) z6, cell_of_row _ _ 0 _ 26 (0, 0) z7, g, cap, w8, hrun, cell_of_row w8 _ 0 _ 26 (0, 0) z8, by simp [World.frozen?, show w8.heap[B]? = _ from z8], Lib.hid (copy_step hB hn hi h6 hp hown' hgrow hat), Lib.hid ?_⟩
  have hb0 : B ≤ W.heap.size := by have := hi.1.lt; omega
  exact ((((h6.mono hb0).alloc (by omega) _).grown hgrow (by simp; omega) (fun k e => by have := hrow k e; omega)).setCell (Nat.le_refl B) _)
end Go.Proofs.YtklfojmflmablaaGreatDoor
/- The reference: Copy, the walk. -/
namespace Go.Proofs.YtklfojmflmablaaGreatDoor
open Go Go.RowKit Go.Shelf
attribute [local go_sem ↓] append_shut

theorem results_copy {tmps : Array Value} {W : World} {B : Nat} {v : Value} {root : Bs} {ju : Bool} (h : BoxA W B v root ju) (t2 : tmps[2]?.getD undef = .pointer (some ⟨B, 0, none⟩)) :
    (results Tryz.f19 tmps).run Tryz.prog W = .ok (arV v root ju) W := by
  have c0 := cell_of_row W B 0 _ 26 (0, 0) h
  have c1 := cell_of_row W B 1 _ 26 (0, 0) h
  have c2 := cell_of_row W B 2 _ 26 (0, 0) h
  have c3 := cell_of_row W B 3 _ 26 (0, 0) h
  simp at c0 c1 c2 c3
  simp [results, Tryz.results19, t2, go_sem, loadVar, c0, c1, c2, c3, arV]

set_option maxRecDepth 100000 in
set_option maxHeartbeats 1000000 in
theorem copy_any (v : Value) (a : Ar) (w : World) (hl : a.ids.length ≤ 1000) (hpl : ∀ t ∈ a.ids, t.params.length ≤ 1000) (hv : TyIn w w.heap.size v a.ids) :
    Calls Tryz.prog 19 #[arV v a.root a.jumps] w fun e w' => ∃ v', e = .returned (arV v' a.root a.jumps) ∧ TyIn w' w'.heap.size v' a.ids ∧ Below w.heap.size w w' := by
  have HV := Lib.hid hv
  obtain ⟨A, c, rfl, hA⟩ := hv
  obtain ⟨l, r, ju⟩ := a
  dsimp only at hA hl hpl HV ⊢
  have HA := Lib.hid hA
  have HPL := Lib.hid hpl
  obtain ⟨i0, hi, hz0, hz1, hz2⟩ := info_parts info64
  obtain ⟨w1, hw1⟩ : ∃ w1, ((w.alloc (.cells #[.slice A l.length c, .bool r.cell, .int .i64 r.n, .bool ju] 26)).alloc (.cells #[.slice none 0 0, .bool false, .int .i64 0, .bool false] 26)).alloc (.cells #[.slice none 0 0, .bool r.cell, .int .i64 r.n, .bool ju] 26) = w1 := ⟨_, rfl⟩
  have hsz : w1.heap.size = w.heap.size + 3 := by rw [← hw1]; simp
  have hb : Below w.heap.size w w1 := by rw [← hw1]; exact (((Below.refl _ w).alloc (Nat.le_refl _) _).alloc (by simp) _).alloc (by simp; omega) _
  have x0 : BoxA w1 w.heap.size (.slice A l.length c) r ju := by rw [← hw1]; exact (Below.heap_alloc _ _ _ (by simp; omega)).trans ((Below.heap_alloc _ _ _ (by simp)).trans (World.alloc_heap_new w _))
  have x1 : BoxA w1 (w.heap.size + 1) (.slice none 0 0) ⟨false, 0⟩ false := by
    rw [← hw1]; refine (Below.heap_alloc _ _ _ (by simp)).trans ?_
    have := World.alloc_heap_new (w.alloc (.cells #[.slice A l.length c, .bool r.cell, .int .i64 r.n, .bool ju] 26)) (.cells #[.slice none 0 0, .bool false, .int .i64 0, .bool false] 26); rwa [World.size_alloc] at this
  have x2 : BoxA w1 (w.heap.size + 1 + 1) (.slice none 0 0) r ju := by
    rw [← hw1]
    have := World.alloc_heap_new ((w.alloc (.cells #[.slice A l.length c, .bool r.cell, .int .i64 r.n, .bool ju] 26)).alloc (.cells #[.slice none 0 0, .bool false, .int .i64 0, .bool false] 26)) (.cells #[.slice none 0 0, .bool r.cell, .int .i64 r.n, .bool ju] 26); rwa [World.size_alloc, World.size_alloc] at this
  have HB := Lib.hid hb
  have HS := Lib.hid hsz
  have HX0 := Lib.hid x0
  have HX1 := Lib.hid x1
  have HX2 := Lib.hid x2
  have c0 := cell_of_row w1 _ 0 _ 26 (0, 0) x0
  have c1 := cell_of_row w1 _ 1 _ 26 (0, 0) x0
  have c2 := cell_of_row w1 _ 2 _ 26 (0, 0) x0
  have c3 := cell_of_row w1 _ 3 _ 26 (0, 0) x0
  have c10 : (w.alloc (.cells #[.slice A l.length c, .bool r.cell, .int .i64 r.n, .bool ju] 26)).heap[w.heap.size]? = some (.cells #[.slice A l.length c, .bool r.cell, .int .i64 r.n, .bool ju] 26) := World.alloc_heap_new w _
  unfold arV
  clear hA hb hsz x0 x1 x2 hpl
  go_enter Tryz.func19, Tryz.ntmps19
  go_wp2
  go_loopw [4] (fun i wr => ∃ (j : Nat) (u : Value) (zs : List (Value × Ty)), i = .int .i64 j ∧ j ≤ l.length ∧ Hid (zs.map Prod.snd = l.take j) ∧ Hid (CopyInv wr (w.heap.size + 3) (w.heap.size + 1 + 1) u zs r ju) ∧ Hid (Below w.heap.size w wr) ∧ Hid (BoxA wr w.heap.size (.slice A l.length c) r ju) ∧ Hid (BoxA wr (w.heap.size + 1) (.slice none 0 0) ⟨false, 0⟩ false)) (fun i _ => l.length - (intOf i).toNat)
  case atStart => exact ⟨0, _, [], rfl, Nat.zero_le _, Lib.hid rfl, Lib.hid (copy_new HX2.out), HB, HX0, HX1⟩
  case round =>
    obtain ⟨j, u, zs, rfl, hj, HZ, HI, hB, hY0, hY1⟩ := hrel
    have c0 := cell_of_row wr _ 0 _ 26 (0, 0) hY0.out
    have hzl : zs.length = j := by have := congrArg List.length HZ.out; simpa [Nat.min_eq_left hj] using this
    have HZL := Lib.hid hzl
    have hsz3 : w.heap.size + 3 ≤ wr.heap.size := by have := HI.out.1.lt; omega
    have HS3 := Lib.hid hsz3
    clear hzl hsz3
    by_cases hlt : j < l.length
    · obtain ⟨y, hy⟩ : ∃ y, l[j]? = some y := ⟨_, List.getElem?_eq_getElem hlt⟩
      obtain ⟨b, off, pv, rfl, hbn, hbs, e0, e1, e2⟩ := HA.out j y hy
      have HW : Hid (∀ b, b < w.heap.size → wr.heap[b]? = w.heap[b]?) := Lib.hid hB.out.block
      replace e0 := (World.cell?_of_block (HW.out b hbn)).trans e0
      replace e1 := (World.cell?_of_block (HW.out b hbn)).trans e1
      replace e2 := (World.cell?_of_block (HW.out b hbn)).trans e2
      obtain ⟨pA, pc, rfl⟩ := bsIn_slice hbs
      have CC : Hid (∀ W, Below wr.heap.size wr W → Calls Tryz.prog 66 #[tyV (.slice pA y.params.length pc) y.result] W fun e w' => ∃ A' c', e = .returned (tyV (.slice A' y.params.length c') y.result) ∧ w'.ownsRow W.heap.size 24 2 (.slice A' y.params.length c') y.params.length (y.params.flatMap bsCells) ∧ Below W.heap.size W w') := Lib.hid fun W hW => by
        exact copyType_any _ y W (HPL.out y (List.mem_of_getElem? hy)) (bsIn_later hbs (hB.out.trans (hW.mono hB.out.size)))
      have HY := Lib.hid hy
      unfold tyV at CC
      have q0 := HI.out.1
      have d0 := cell_of_row wr _ 0 _ 26 (0, 0) q0
      clear hy hbs q0
      obtain ⟨uA, un, uc, rfl⟩ : ∃ uA un uc, u = .slice uA un uc := by
        rcases HI.out.2.1.2 with ⟨rfl, _⟩ | ⟨g, cap, cur, rfl, _⟩
        · exact ⟨_, _, _, rfl⟩
        · exact ⟨_, _, _, rfl⟩
      go_wp2_with fail
      have HCA : Hid (∀ W6 A' c', Below wr.heap.size wr W6 → W6.ownsRow wr.heap.size 24 2 (.slice A' y.params.length c') y.params.length (y.params.flatMap bsCells) → _) := Lib.hid fun W6 A' c' h6 hp6 => copy_arm (x := y) (by omega) HS3.out (by have := HZL.out; omega) HI.out h6 hp6 rfl
      go_region_with (go_at_call 66; refine (CC.out _ ((Below.refl _ wr).drew)).mono ?_; rintro e W6 ⟨A', c', rfl, hp6, hb6⟩; obtain ⟨k1, k2, g', cap', w8, hrun, k3, k4, HST, HB8⟩ := HCA.out W6 A' c' (((Below.refl _ wr).drew).trans hb6) hp6)
      all_goals go_wp2
      all_goals refine ⟨⟨j + 1, _, _, by simp, by omega, Lib.hid ?_, HST, Lib.hid (hB.out.trans (HB8.out.mono (by omega))), Lib.hid ((HB8.out.block _ (by omega)).trans hY0.out), Lib.hid ((HB8.out.block _ (by omega)).trans hY1.out)⟩, by simp [intOf]; omega⟩
      all_goals rw [List.map_append, HZ.out, take_snoc HY.out]
      all_goals rfl
    · obtain rfl : j = l.length := by omega
      have q0 := HI.out.1
      obtain ⟨uA, un, uc, rfl⟩ : ∃ uA un uc, u = .slice uA un uc := by
        rcases HI.out.2.1.2 with ⟨rfl, _⟩ | ⟨g, cap, cur, rfl, _⟩
        · exact ⟨_, _, _, rfl⟩
        · exact ⟨_, _, _, rfl⟩
      have d0 := cell_of_row wr _ 0 _ 26 (0, 0) q0
      have d1 := cell_of_row wr _ 1 _ 26 (0, 0) q0
      have d2 := cell_of_row wr _ 2 _ 26 (0, 0) q0
      have d3 := cell_of_row wr _ 3 _ 26 (0, 0) q0
      obtain ⟨x1, x2, x3, x4, e1, e2, e3, e4, s0, f0, s1, f1, s2, f2, s3, f3, hx4, ho⟩ := chain26 hY1.out (.slice uA un uc) r ju
      have HX4 := Lib.hid hx4
      have HO := Lib.hid ho
      have HT : Hid (TyIn wr wr.heap.size (.slice uA un uc) l) := Lib.hid (by have := copy_done HI.out; rwa [HZ.out, List.take_length] at this)
      have HI2 := Lib.hid (copy_only HI.out ho (by omega) (by omega))
      clear q0 hx4 ho
      go_wp2
      refine bodyPost_ret (results_copy HX4.out rfl) rfl ?_
      refine ⟨_, rfl, ?_, hB.out.trans (HO.out.below _ hB.out.size (fun b hb h => by omega))⟩
      have := copy_done HI2.out
      rwa [HZ.out, List.take_length] at this
end Go.Proofs.YtklfojmflmablaaGreatDoor
