/- ArenaAdds: arena.Add and the reference's, and the law. -/
import Derived.Lib.AppendZerosOnto
import Derived.Test.YtklfojmflmablaaGreatDoorGj
import Derived.Test.YtklfojmflmablaaGreatDoorCkB
import Derived.Deep.RegionHeld3
import Derived.BigRegion
import Derived.Maps.AppendAt
import Derived.Test.YtklfojmflmablaaGreatDoorAw
/- slices.Grow and slices.Concat of types. -/
namespace Go.Proofs.YtklfojmflmablaaGreatDoor
open Go Go.RowKit Go.Shelf

theorem grow_run (n : Nat) (w : World) (hn : n ≤ 4000) (h0 : n ≠ 0) : ∃ G w2, (∀ ty, (Builtin.append_ #[22, 3] ty #[.slice none 0 0, .int .i64 (n : Int)]).run Tryz.prog w = .ok (.slice (some ⟨w.heap.size, 0, none⟩) n G) w2) ∧
    w2.ownsRow w.heap.size 64 3 (.slice (some ⟨w.heap.size, 0, none⟩) 0 G) 0 [] ∧ Below w.heap.size w w2 ∧ n ≤ G ∧ G ≤ 9223372036854775807 := by
  obtain ⟨i0, hi, hz0, hz1, hz2⟩ := info_parts info64
  have hold : (Builtin.firstCells i0.size 0 (.slice none 0 0)).run Tryz.prog w.drew = .ok ([] : List Value).toArray w.drew := run_firstCells_none w.drew i0.size 0 0 0
  have hrz := fun ty =>
    Lib.run_append_grow_zeros w 22 3 ty 64 i0 _ .i64 .i64 Tryz.underlying22 (by kernel_rfl) hi hz0 none 0 0 [] hold n (by omega) (by rw [hz1]; decide) (by omega) (by omega) (by rw [hz2]; show n * 40 ≤ _; omega) (growslice_fits (by omega) (by rw [hz2]; show (0 + n) * 40 ≤ _; omega))
  have hGn : 0 + n ≤ grownCap w (0 + n) 0 64 := grownCap_ge w _ _ _
  have hGm := grownCap_le_maxLen w (0 + n) 0 64 (by unfold maxLen; omega)
  rw [Nat.zero_add] at hrz hGn hGm
  refine ⟨grownCap w n 0 64, _, hrz, ⟨rfl, .inr ⟨w.heap.size, _, _, rfl, Nat.le_refl _, heap_alloc_new w.drew _, Nat.zero_le _, hGm, ?_, by simp⟩⟩, (Below.refl _ w).drew.alloc (Nat.le_refl _) _, hGn, by unfold maxLen at hGm; omega⟩
  simp only [Array.size_append, size_zeroCells]
  show 0 + n * 3 + (grownCap w n 0 64 - n) * 3 = grownCap w n 0 64 * 3
  omega

set_option maxRecDepth 100000 in
set_option maxHeartbeats 1000000 in
theorem grow_any (n : Nat) (w : World) (hn : n ≤ 4000) :
    Calls Tryz.prog 168 #[.slice none 0 0, .int .i64 (n : Int)] w fun e w' => ∃ A c, e = .returned (.slice A 0 c) ∧ Hid (w'.ownsRow w.heap.size 64 3 (.slice A 0 c) 0 []) ∧ Below w.heap.size w w' := by
  by_cases h0 : n = 0
  · subst h0
    go_enter Tryz.func168, Tryz.ntmps168
    go_wp2
    go_ret
    exact ⟨_, _, rfl, Lib.hid (World.ownsRow_nil _ _ _ _), Below.refl _ _⟩
  · obtain ⟨G, w2, hrz, hr, hb, hGn, hG63⟩ := grow_run n w hn h0
    have HROW := Lib.hid hr
    have HB := Lib.hid hb
    have h1 : ¬ ((n : Int) < 0) := by omega
    have h3 : wrap64 ((n : Int) - 0) = (n : Int) := by unfold wrap64; omega
    have h4 : (n : Int) > 0 := by omega
    clear hr hb
    go_enter Tryz.func168, Tryz.ntmps168
    go_wp2_with (at_builtin; refine Lib.wpList_append_run _ rfl _ _ _ _ rfl _ _ rfl rfl _ _ (hrz _) ?_)
    all_goals (go_ret; exact ⟨_, _, rfl, HROW, HB.out⟩)

/-- What a slice of types holds, cell by cell. -/
def CellsAt (W : World) (A : Option Addr) (cs : List Value) : Prop := ∀ j u, cs[j]? = some u → ∃ ad, A = some ad ∧ ad.block < W.heap.size ∧ W.cell? (ad.add j) = some u
theorem CellsAt.later {W W' : World} {A : Option Addr} {cs : List Value} (h : CellsAt W A cs) (hb : Below W.heap.size W W') : CellsAt W' A cs := fun j u hu => by
  obtain ⟨ad, e, hl, hc⟩ := h j u hu
  have e2 : (ad.add j).block = ad.block := by unfold Addr.add; split <;> rfl
  exact ⟨ad, e, Nat.lt_of_lt_of_le hl hb.size, (hb.cell (p := ad.add j) (by rw [e2]; exact hl)).trans hc⟩
theorem ty_len (zs : List (Value × Ty)) : (zs.flatMap tyCells).length = zs.length * 3 := by
  induction zs with
  | nil => rfl
  | cons x l ih => rw [List.flatMap_cons, List.length_append, ih]; simp [tyCells]; omega
theorem app_none (P : Program) (W : World) (t e : TypeId) (i : TypeInfo) (z : Value) (ht : P.underlying t = some (.slice e)) (hi : P.info? e = some i) (hz : i.zero = some z) (A : Option Addr) (k c c2 : Nat) (hk : k ≤ c) :
    (Builtin.append_ #[t, t] t #[.slice A k c, .slice none 0 c2]).run P W = .ok (.slice A k c) W := by
  cases A <;> simp [Builtin.append_, run_underlying ht, sizeOf, typeInfo, zeroValue, hi, hz, Builtin.lenOf, Question.forced, run_firstCells_none, hk, storeCells]
/-- Types behind types. -/
theorem app_ty (W : World) (n0 : Nat) (v : Value) (A : Option Addr) (c : Nat) (zs ms : List (Value × Ty)) (hv : W.ownsRow n0 64 3 v zs.length (zs.flatMap tyCells)) (hx : CellsAt W A (ms.flatMap tyCells)) (h1 : ∀ z ∈ ms, z.1.oneCell' = true) (hn : n0 ≤ W.heap.size) (hl : zs.length ≤ 2000) (hr : ms.length ≤ 2000) :
    ∃ A' c' w', (appShut #[22, 22] 22 #[v, .slice A ms.length c]).run Tryz.prog W = .ok (.slice A' (zs ++ ms).length c') w' ∧ Hid (w'.ownsRow n0 64 3 (.slice A' (zs ++ ms).length c') (zs ++ ms).length ((zs ++ ms).flatMap tyCells)) ∧ Below n0 W w' ∧ Hid (∀ b, b < W.heap.size → some b ≠ v.ownBlock → w'.heap[b]? = W.heap[b]?) := by
  obtain ⟨i0, hi, hz0, hz1, hz2⟩ := info_parts info64
  cases A with
  | none =>
    have hm : ms = [] := by
      cases ms with
      | nil => rfl
      | cons x l => obtain ⟨ad, e, _⟩ := hx 0 x.1 rfl; cases e
    subst hm
    rw [List.append_nil]
    have hs : ∃ A k c, v = .slice A k c ∧ k ≤ c ∧ k = zs.length := by
      rcases hv.2 with ⟨rfl, h⟩ | ⟨g, cap, cur, rfl, _, _, hcap, _⟩
      · exact ⟨_, _, _, rfl, Nat.le_refl _, h.symm⟩
      · exact ⟨_, _, _, rfl, hcap, rfl⟩
    obtain ⟨A, k, c', rfl, hkc, rfl⟩ := hs
    exact ⟨A, c', W, app_none Tryz.prog W 22 64 i0 _ Tryz.underlying22 hi hz0 A _ c' c hkc, Lib.hid hv, Below.refl _ _, Lib.hid fun _ _ _ => rfl⟩
  | some ad =>
    obtain ⟨v', w', hrun, hown, hgrow, _, _⟩ := run_append_own_at (P := Tryz.prog) W n0 22 22 64 i0 _ 3 40 Tryz.underlying22 hi hz0 hz1 hz2 rfl (by decide) v zs.length (zs.flatMap tyCells) hv ad ms.length c (ms.flatMap tyCells) (ty_len ms)
      (fun j u hu => by obtain ⟨ad', e, _, hc⟩ := hx j u hu; cases e; exact hc) (fun u hu => by
        obtain ⟨z, hz, hx⟩ := List.mem_flatMap.1 hu
        simp [tyCells] at hx
        rcases hx with rfl | rfl | rfl
        · exact h1 z hz
        · rfl
        · rfl) (by unfold maxLen; omega) (by omega) hn
    rw [← List.flatMap_append, ← List.length_append] at hown
    have hs : ∃ A c, v' = .slice A (zs ++ ms).length c := by
      rcases hown.2 with ⟨rfl, h⟩ | ⟨g, cap, cur, rfl, _⟩
      · exact ⟨_, _, by rw [h]⟩
      · exact ⟨_, _, rfl⟩
    obtain ⟨A', c', rfl⟩ := hs
    exact ⟨A', c', w', hrun, Lib.hid hown, (Below.refl n0 W).grown hgrow hn (fun k e => (rowAt hv e).1), Lib.hid fun b hb hne => hgrow.block b hb hne⟩
/-- What comes in as types, taken apart. -/
theorem tyIn_cells {W : World} {n : Nat} {A : Option Addr} {c : Nat} {l : List Ty} (hn : n ≤ W.heap.size) (h : TyIn W n (.slice A l.length c) l) : ∃ zs : List (Value × Ty), zs.map Prod.snd = l ∧ (∀ z ∈ zs, BsIn W n z.1 z.2.params) ∧ CellsAt W A (zs.flatMap tyCells) := by
  obtain ⟨A', c', e, hA⟩ := h
  cases e
  have key : ∀ k, k ≤ l.length → ∃ zs : List (Value × Ty), zs.map Prod.snd = l.take k ∧ (∀ z ∈ zs, BsIn W n z.1 z.2.params) ∧ CellsAt W A (zs.flatMap tyCells) := by
    intro k
    induction k with
    | zero => intro _; exact ⟨[], by simp, fun z hz => (by cases hz), fun j u hu => by simp at hu⟩
    | succ k ih =>
      intro hk
      obtain ⟨zs, h1, h2, h3⟩ := ih (by omega)
      have hzl : zs.length = k := by have := congrArg List.length h1; simpa [Nat.min_eq_left (show k ≤ l.length by omega)] using this
      obtain ⟨y, hy⟩ : ∃ y, l[k]? = some y := ⟨_, List.getElem?_eq_getElem (by omega)⟩
      obtain ⟨b, off, pv, rfl, hb, hbs, e0, e1, e2⟩ := hA k y hy
      refine ⟨zs ++ [(pv, y)], by rw [List.map_append, h1, take_snoc hy]; rfl, fun z hz => ?_, fun j u hu => ?_⟩
      · rcases List.mem_append.1 hz with hz | hz
        · exact h2 z hz
        · obtain rfl : z = (pv, y) := by simpa using hz
          exact hbs
      · rw [List.flatMap_append] at hu
        by_cases hj : j < (zs.flatMap tyCells).length
        · rw [List.getElem?_append_left hj] at hu
          exact h3 j u hu
        · rw [List.getElem?_append_right (by omega)] at hu
          have hl := ty_len zs
          refine ⟨_, rfl, by show b < _; omega, ?_⟩
          have hadd : (⟨b, off, none⟩ : Addr).add j = ⟨b, off + j, none⟩ := by unfold Addr.add; split <;> simp_all
          rw [hadd]
          obtain ⟨i, hi⟩ : ∃ i, j = k * 3 + i := ⟨j - k * 3, by omega⟩
          have hji : j - (zs.flatMap tyCells).length = i := by omega
          rw [hji] at hu
          subst hi
          match i, hu with
          | 0, hu => simp [tyCells] at hu; subst hu; exact e0
          | 1, hu => simp [tyCells] at hu; subst hu; exact e1
          | 2, hu => simp [tyCells] at hu; subst hu; exact e2
          | i + 3, hu => simp [tyCells] at hu
  have := key l.length (Nat.le_refl _)
  rwa [List.take_length] at this
end Go.Proofs.YtklfojmflmablaaGreatDoor
/- slices.Concat of types. -/
namespace Go.Proofs.YtklfojmflmablaaGreatDoor
open Go Go.RowKit Go.Shelf
attribute [local go_sem ↓] append_shut

set_option maxRecDepth 100000 in
set_option maxHeartbeats 1000000 in
theorem concat_any (b : Nat) (A1 A2 : Option Addr) (c1 c2 : Nat) (z1 z2 : List (Value × Ty)) (w : World) (hb : b < w.heap.size) (h0 : w.cell? ⟨b, 0, none⟩ = some (.slice A1 z1.length c1)) (h1 : w.cell? ⟨b, 1, none⟩ = some (.slice A2 z2.length c2))
    (l1 : z1.length ≤ 1000) (l2 : z2.length ≤ 1000) (r1 : CellsAt w A1 (z1.flatMap tyCells)) (r2 : CellsAt w A2 (z2.flatMap tyCells)) (o1 : ∀ z ∈ z1, z.1.oneCell' = true) (o2 : ∀ z ∈ z2, z.1.oneCell' = true) :
    Calls Tryz.prog 106 #[.slice (some ⟨b, 0, none⟩) 2 2] w fun e w' => ∃ A c, e = .returned (.slice A (z1 ++ z2).length c) ∧ Hid (w'.ownsRow w.heap.size 64 3 (.slice A (z1 ++ z2).length c) (z1 ++ z2).length ((z1 ++ z2).flatMap tyCells)) ∧ Below w.heap.size w w' := by
  have CG : Hid (∀ W, Calls Tryz.prog 168 #[.slice none 0 0, .int .i64 ((z1.length : Int) + (z2.length : Int))] W fun e w' => ∃ A c, e = .returned (.slice A 0 c) ∧ Hid (w'.ownsRow W.heap.size 64 3 (.slice A 0 c) 0 []) ∧ Below W.heap.size W w') := Lib.hid fun W => by
    have := grow_any (z1.length + z2.length) W (by omega)
    rwa [Int.natCast_add] at this
  have HL := Lib.hid hb
  have HA1 : Hid (∀ W B c, Below w.heap.size w W → W.ownsRow w.heap.size 64 3 (.slice B 0 c) 0 [] → _) := Lib.hid fun W B c hW hr => app_ty W w.heap.size (.slice B 0 c) A1 c1 [] z1 hr (r1.later hW) o1 hW.size (by simp) (by omega)
  have HA2 : Hid (∀ W B c, Below w.heap.size w W → W.ownsRow w.heap.size 64 3 (.slice B z1.length c) z1.length (z1.flatMap tyCells) → _) := Lib.hid fun W B c hW hr => app_ty W w.heap.size (.slice B z1.length c) A2 c2 z1 z2 hr (r2.later hW) o2 hW.size (by omega) (by omega)
  obtain ⟨n1, hn1⟩ : ∃ n, z1.length = n := ⟨_, rfl⟩
  obtain ⟨n2, hn2⟩ : ∃ n, z2.length = n := ⟨_, rfl⟩
  rw [hn1] at h0 CG
  rw [hn2] at h1 CG
  have HN1 := Lib.hid hn1
  have HN2 := Lib.hid hn2
  rw [hn1] at l1
  rw [hn2] at l2
  clear hn1 hn2 r1 r2 o1 o2
  go_enter Tryz.func106, Tryz.ntmps106
  go_wp2
  go_loopw [3, 5, 11] (fun s _ k wr => ((k = .int .i64 0 ∧ s = .int .i64 0) ∨ (k = .int .i64 1 ∧ s = .int .i64 (n1 : Int)) ∨ (k = .int .i64 2 ∧ s = .int .i64 ((n1 : Int) + (n2 : Int)))) ∧ w = wr) (fun _ _ k _ => 3 - (intOf k).toNat)
  case atStart => exact ⟨.inl ⟨rfl, rfl⟩, rfl⟩
  case round =>
    obtain ⟨hk, rfl⟩ := hrel
    rcases hk with ⟨rfl, rfl⟩ | ⟨rfl, rfl⟩ | ⟨rfl, rfl⟩
    · have e1 : ¬ ((n1 : Int) < 0) := by omega
      go_wp2
      go_roundw
      case rel => exact ⟨.inr (.inl ⟨by simp, by simp⟩), by simp⟩
      case measure => simp [intOf]
    · have e1 : ¬ ((n1 : Int) + (n2 : Int) < 0) := by omega
      go_wp2
      go_roundw
      case rel => exact ⟨.inr (.inr ⟨by simp, by simp⟩), by simp⟩
      case measure => simp [intOf]
    · have e1 : ¬ ((n1 : Int) + (n2 : Int) < 0) := by omega
      go_wp2_with (go_at_call 168; refine (CG.out _).mono ?_; rintro e w2 ⟨B, c, rfl, hr, hb2⟩)
      go_loopw [6, 8, 27] (fun v _ k wr => ∃ (j : Nat) (zs : List (Value × Ty)) (B : Option Addr) (c : Nat), k = .int .i64 (j : Int) ∧ v = .slice B zs.length c ∧ ((j = 0 ∧ zs = []) ∨ (j = 1 ∧ zs = z1) ∨ (j = 2 ∧ zs = z1 ++ z2)) ∧ Hid (wr.ownsRow w.heap.size 64 3 (.slice B zs.length c) zs.length (zs.flatMap tyCells)) ∧ Hid (Below w.heap.size w wr)) (fun _ _ k _ => 3 - (intOf k).toNat)
      case atStart => exact ⟨0, [], B, c, rfl, rfl, .inl ⟨rfl, rfl⟩, hr, Lib.hid hb2⟩
      case round =>
        obtain ⟨j, zs, B, c, rfl, rfl, hk, HR, HB⟩ := hrel
        have q0 := (HB.out.cell (p := ⟨b, 0, none⟩) HL.out).trans h0
        have q1 := (HB.out.cell (p := ⟨b, 1, none⟩) HL.out).trans h1
        rcases hk with ⟨rfl, rfl⟩ | ⟨rfl, rfl⟩ | ⟨rfl, rfl⟩
        · obtain ⟨A', c', w', hrun, hown, hb', _⟩ := HA1.out wr B c HB.out HR.out
          rw [HN1.out] at hrun
          clear HR
          go_wp2
          go_roundw
          case rel => exact ⟨1, z1, A', c', by simp, rfl, .inr (.inl ⟨rfl, rfl⟩), hown, Lib.hid (HB.out.trans hb')⟩
          case measure => simp [intOf]
        · obtain ⟨A', c', w', hrun, hown, hb', _⟩ := HA2.out wr B c HB.out HR.out
          rw [HN2.out] at hrun
          clear HR
          go_wp2
          go_roundw
          case rel => exact ⟨2, _, A', c', by simp, by rw [List.length_append], .inr (.inr ⟨rfl, rfl⟩), hown, Lib.hid (HB.out.trans hb')⟩
          case measure => simp [intOf]
        · go_wp2
          go_ret
          exact ⟨B, c, by simp, HR, HB.out⟩
end Go.Proofs.YtklfojmflmablaaGreatDoor
/- arena.Add: what its loop writes. -/
namespace Go.Proofs.YtklfojmflmablaaGreatDoor
open Go Go.RowKit Go.Shelf

theorem ty_set : ∀ (zs : List (Value × Ty)) (j : Nat) (pv v : Value) (t : Ty), zs[j]? = some (pv, t) → (zs.flatMap tyCells).set (j * 3) v = (zs.set j (v, t)).flatMap tyCells
  | [], j, pv, v, t, h => by simp at h
  | z :: zs, 0, pv, v, t, h => by
    simp only [List.getElem?_cons_zero, Option.some.injEq] at h
    subst h
    simp [tyCells]
  | z :: zs, j + 1, pv, v, t, h => by
    have ih := ty_set zs j pv v t (by simpa using h)
    rw [List.flatMap_cons, List.set_cons_succ, List.flatMap_cons, ← ih]
    simp only [tyCells]
    rw [show (j + 1) * 3 = j * 3 + 1 + 1 + 1 by omega]
    simp only [List.cons_append, List.nil_append, List.set_cons_succ]
/-- A store of other params into a row of types. -/
theorem row_setTy {W : World} {n₀ g N cap j : Nat} {pv v : Value} {t : Ty} {zs : List (Value × Ty)} (h : W.ownsRow n₀ 64 3 (.slice (some ⟨g, 0, none⟩) N cap) N (zs.flatMap tyCells)) (hj : zs[j]? = some (pv, t)) :
    (W.setCell ⟨g, j * 3, none⟩ v).ownsRow n₀ 64 3 (.slice (some ⟨g, 0, none⟩) N cap) N ((zs.set j (v, t)).flatMap tyCells) := by
  have hl := h.1
  rw [ty_len] at hl
  refine ⟨by rw [ty_len, List.length_set]; exact hl, ?_⟩
  rcases h.2 with ⟨e, _⟩ | ⟨g', cap', cur, e, hb, hg, hcap, hmax, hsz, htake⟩
  · cases e
  · cases e
    refine .inr ⟨g, cap, _, rfl, hb, heap_setCell_same W g (j * 3) cur 64 v hg, hcap, hmax, by simpa using hsz, ?_⟩
    rw [Array.toList_setIfInBounds, List.take_set, htake]
    exact ty_set zs j pv v t hj
/-- Base types that lie outside of a block, and of others. -/
def BsOff (W : World) (G : Nat) (S : Nat → Prop) (v : Value) (l : List Bs) : Prop :=
  ∃ A c, v = .slice A l.length c ∧ ∀ i (x : Bs), l[i]? = some x → ∃ b off, A = some ⟨b, off, none⟩ ∧ b < W.heap.size ∧ (b ≠ G ∧ ¬ S b) ∧
    W.cell? ⟨b, off + i * 2, none⟩ = some (.bool x.cell) ∧ W.cell? ⟨b, off + i * 2 + 1, none⟩ = some (.int .i64 x.n)
theorem BsOff.bsIn {W : World} {G : Nat} {S : Nat → Prop} {v : Value} {l : List Bs} (h : BsOff W G S v l) : BsIn W W.heap.size v l := by
  obtain ⟨A, c, rfl, hA⟩ := h
  refine ⟨A, c, rfl, fun i x hx => ?_⟩
  obtain ⟨b, off, rfl, h0, _, h1, h2⟩ := hA i x hx
  exact ⟨b, off, rfl, h0, h1, h2⟩
theorem BsOff.only {W W' : World} {G : Nat} {S : Nat → Prop} {v : Value} {l : List Bs} (h : BsOff W G S v l) (ho : Only (fun k => k = G ∨ S k) W W') : BsOff W' G S v l := by
  obtain ⟨A, c, rfl, hA⟩ := h
  refine ⟨A, c, rfl, fun i x hx => ?_⟩
  obtain ⟨b, off, rfl, h0, hne, h1, h2⟩ := hA i x hx
  have hn : ¬ (b = G ∨ S b) := fun e => e.elim hne.1 hne.2
  exact ⟨b, off, rfl, Nat.lt_of_lt_of_le h0 ho.size, hne, (ho.cell (p := ⟨b, off + i * 2, none⟩) h0 hn).trans h1, (ho.cell (p := ⟨b, off + i * 2 + 1, none⟩) h0 hn).trans h2⟩
theorem BsOff.to {W W' : World} {G G' : Nat} {S : Nat → Prop} {v : Value} {l : List Bs} (h : BsOff W G S v l) (ho : Only (fun k => k = G ∨ S k) W W') (hG : G' = G ∨ W.heap.size ≤ G') : BsOff W' G' S v l := by
  obtain ⟨A, c, rfl, hA⟩ := h
  refine ⟨A, c, rfl, fun i x hx => ?_⟩
  obtain ⟨b, off, rfl, h0, hne, h1, h2⟩ := hA i x hx
  have hn : ¬ (b = G ∨ S b) := fun e => e.elim hne.1 hne.2
  exact ⟨b, off, rfl, Nat.lt_of_lt_of_le h0 ho.size, ⟨by have := hne.1; omega, hne.2⟩, (ho.cell (p := ⟨b, off + i * 2, none⟩) h0 hn).trans h1, (ho.cell (p := ⟨b, off + i * 2 + 1, none⟩) h0 hn).trans h2⟩
theorem BsOff.of_in {W W' : World} {n G : Nat} {S : Nat → Prop} {v : Value} {l : List Bs} (h : BsIn W n v l) (hb : Below n W W') (hn : n ≤ W'.heap.size) (hG : n ≤ G) (hH : ∀ k, k < n → ¬ S k) : BsOff W' G S v l := by
  obtain ⟨A, c, rfl, hA⟩ := h
  refine ⟨A, c, rfl, fun i x hx => ?_⟩
  obtain ⟨b, off, rfl, h0, h1, h2⟩ := hA i x hx
  exact ⟨b, off, rfl, by omega, ⟨by omega, hH b h0⟩, (hb.cell (p := ⟨b, off + i * 2, none⟩) h0).trans h1, (hb.cell (p := ⟨b, off + i * 2 + 1, none⟩) h0).trans h2⟩
theorem BsOff.of_own {W : World} {n G : Nat} {S : Nat → Prop} {v : Value} {l : List Bs} (h : W.ownsRow n 24 2 v l.length (l.flatMap bsCells)) (hG : G < n) (hH : ∀ k, n ≤ k → ¬ S k) : BsOff W G S v l := by
  obtain ⟨A, c, rfl, hA⟩ := bsIn_own h
  refine ⟨A, c, rfl, fun i x hx => ?_⟩
  obtain ⟨b, off, rfl, h0, h1, h2⟩ := hA i x hx
  have := (rowAt h (g := b) rfl).1
  exact ⟨b, off, rfl, h0, ⟨by omega, hH b this⟩, h1, h2⟩
/-- An append of base types to the nil slice. -/
theorem app_bases0 (W : World) (A : Option Addr) (c : Nat) (l : List Bs) (hl : l.length ≤ 1000) (hA : BsIn W W.heap.size (.slice A l.length c) l) :
    ∃ A' c' w', (appShut #[62, 62] 62 #[.slice none 0 0, .slice A l.length c]).run Tryz.prog W = .ok (.slice A' l.length c') w' ∧ w'.ownsRow W.heap.size 24 2 (.slice A' l.length c') l.length (l.flatMap bsCells) ∧ Below W.heap.size W w' := by
  obtain ⟨i0, hi, hz0, hz1, hz2⟩ := info_parts info24
  cases A with
  | none =>
    have hl0 : l = [] := by
      cases l with
      | nil => rfl
      | cons x l =>
        obtain ⟨A, c, e, h⟩ := hA
        obtain ⟨b, off, e2, _⟩ := h 0 x rfl
        subst e2
        cases e
    subst hl0
    exact ⟨none, 0, W, app_none Tryz.prog W 62 24 i0 _ Tryz.underlying62 hi hz0 none 0 0 c (Nat.le_refl _), World.ownsRow_nil _ _ _ _, Below.refl _ _⟩
  | some ad =>
    have hnews : ∀ j u, (l.flatMap bsCells)[j]? = some u → W.cell? (ad.add j) = some u := by
      intro j u hu
      obtain ⟨i, x, r, h1, h2, rfl⟩ := flat_get bsCells 2 (fun _ => rfl) l j u hu
      obtain ⟨A, c, e, h⟩ := bsRow hA
      obtain ⟨b, off, e2, _, hc⟩ := h i x h1
      subst e2
      cases e
      have hadd : (⟨b, off, none⟩ : Addr).add (i * 2 + r) = ⟨b, off + (i * 2 + r), none⟩ := by unfold Addr.add; split <;> simp_all
      rw [hadd, ← Nat.add_assoc]
      exact hc r u h2
    have hlen : (l.flatMap bsCells).length = l.length * 2 := by
      clear hnews hA hl
      induction l with
      | nil => rfl
      | cons x l ih => rw [List.flatMap_cons, List.length_append, ih]; simp [bsCells]; omega
    obtain ⟨v', w', h1, h2, h3, _, _⟩ := run_append_own_at (P := Tryz.prog) W W.heap.size 62 62 24 i0 _ 2 16 Tryz.underlying62 hi hz0 hz1 hz2 rfl (by decide) _ 0 [] (World.ownsRow_nil _ _ _ _)
      ad l.length c (l.flatMap bsCells) hlen hnews (fun u hu => by
        obtain ⟨x, _, hx⟩ := List.mem_flatMap.1 hu
        simp [bsCells] at hx
        rcases hx with rfl | rfl <;> rfl) (by unfold maxLen; omega) (by omega) (Nat.le_refl _)
    rw [Nat.zero_add, List.nil_append] at h2
    obtain ⟨A', c', rfl, _⟩ := bsIn_own h2
    exact ⟨A', c', w', h1, h2, (Below.refl _ W).grown h3 (Nat.le_refl _) (fun k e => by cases e)⟩

/-- What the loop of Add has come to. -/
def AddInv (W : World) (n0 B : Nat) (H : Nat → Prop) (v : Value) (N : Nat) (zs : List (Value × Ty)) (root : Bs) (ju : Bool) : Prop :=
  BoxA W B v root ju ∧ W.ownsRow n0 64 3 v N (zs.flatMap tyCells) ∧ (∀ g, v.ownBlock = some g → g ≠ B) ∧ ∀ z ∈ zs, ∀ g, v.ownBlock = some g → BsOff W g H z.1 z.2.params
/-- What it holds is an arena's types, behind a store to another block, too. -/
theorem addInv_tyIn {W W' : World} {n0 B N : Nat} {H S : Nat → Prop} {v : Value} {zs : List (Value × Ty)} {L : List Ty} {root : Bs} {ju : Bool} (h : AddInv W n0 B H v N zs root ju) (hN : zs.length = N) (hz : zs.map Prod.snd = L) (ho : Only S W W') (hS : ∀ k, S k → H k ∧ ∀ g, v.ownBlock = some g → g ≠ k) : TyIn W' W'.heap.size v L := by
  rw [← hz]
  have hr : W'.ownsRow n0 64 3 v zs.length (zs.flatMap tyCells) := by
    rw [hN]
    refine ⟨h.2.1.1, ?_⟩
    rcases h.2.1.2 with hn | ⟨g, cap, cur, rfl, hb', hg, rest⟩
    · exact .inl hn
    · exact .inr ⟨g, cap, cur, rfl, hb', (ho.block g (Array.getElem?_eq_some_iff.1 hg).1 (fun e => (hS g e).2 g rfl rfl)).trans hg, rest⟩
  refine tyIn_own (n₀ := n0) hr fun z hzm => ?_
  rcases h.2.1.2 with ⟨e, h0⟩ | ⟨g, cap, cur, e, _⟩
  · have : zs = [] := List.length_eq_zero_iff.1 (by omega)
    subst this; cases hzm
  · exact ((h.2.2.2 z hzm g (by rw [e]; rfl)).only (ho.mono fun _ _ e => .inr (hS _ e).1)).bsIn
/-- A round of it: an element's params become a copy. -/
theorem addInv_round {W : World} {n0 B g cap N j : Nat} {H : Nat → Prop} {pv : Value} {t : Ty} {zs : List (Value × Ty)} {root : Bs} {ju : Bool} (hB : B < W.heap.size) (hH : ∀ k, W.heap.size ≤ k → ¬ H k) (h : AddInv W n0 B H (.slice (some ⟨g, 0, none⟩) N cap) N zs root ju) (hj : zs[j]? = some (pv, t)) (ht : t.params.length ≤ 1000) (o : Obj) :
    ∃ pA pc A' c' w' w9, pv = .slice pA t.params.length pc ∧ W.cell? ⟨B, 0, none⟩ = some (.slice (some ⟨g, 0, none⟩) N cap) ∧ W.cell? ⟨g, j * 3, none⟩ = some pv ∧ W.cell? ⟨g, j * 3 + 1, none⟩ = some (.bool t.result.cell) ∧ W.cell? ⟨g, j * 3 + 2, none⟩ = some (.int .i64 t.result.n) ∧ Hid (g < W.heap.size ∧ g ≠ B) ∧ (appShut #[62, 62] 62 #[.slice none 0 0, .slice pA t.params.length pc]).run Tryz.prog (W.alloc o).drew = .ok (.slice A' t.params.length c') w' ∧
      w'.cell? ⟨g, j * 3, none⟩ = some pv ∧ w'.frozen? ⟨g, j * 3, none⟩ = false ∧ w'.setCell ⟨g, j * 3, none⟩ (.slice A' t.params.length c') = w9 ∧
      Below (W.alloc o).heap.size (W.alloc o) w' ∧ Only (fun k => k = g) (W.alloc o) w9 ∧ AddInv w9 n0 B H (.slice (some ⟨g, 0, none⟩) N cap) N (zs.set j (.slice A' t.params.length c', t)) root ju := by
  obtain ⟨h1, h2, h3, h4⟩ := h
  have hm := List.mem_of_getElem? hj
  have hoff : BsOff W g H pv t.params := h4 _ hm g rfl
  obtain ⟨pA, pc, e⟩ := bsIn_slice hoff.bsIn
  subst e
  have hgl : g < W.heap.size := (rowAt h2 rfl).2
  have hb0 : Below W.heap.size W (W.alloc o).drew := ((Below.refl _ W).alloc (Nat.le_refl _) _).drew
  obtain ⟨A', c', w', hrun, hown, hb⟩ := app_bases0 (W.alloc o).drew pA pc t.params ht (bsIn_later hoff.bsIn hb0)
  have hbW : Below W.heap.size W w' := hb0.trans (hb.mono hb0.size)
  have r' : w'.ownsRow n0 64 3 (.slice (some ⟨g, 0, none⟩) N cap) N (zs.flatMap tyCells) := row_below h2 hbW
  have hlz : zs.length = N := by have := h2.1; rw [ty_len] at this; omega
  have r'' := r'
  rw [← hlz] at r''
  obtain ⟨A3, c3, e3, hA3⟩ := rowIn_of_own tyCells 3 (fun _ => rfl) r''
  cases e3
  obtain ⟨b3, off3, e4, _, hc3⟩ := hA3 j _ hj
  cases e4
  have hcell := hc3 0 _ rfl
  simp only [Nat.zero_add, Nat.add_zero] at hcell
  have hfz : w'.frozen? ⟨g, j * 3, none⟩ = false := by
    rcases r'.2 with ⟨e, _⟩ | ⟨g', cap', cur, e, _, hg, _⟩
    · cases e
    · cases e; simp [World.frozen?, hg]
  have ho9 : Only (fun k => k = g) w' (w'.setCell ⟨g, j * 3, none⟩ (.slice A' t.params.length c')) := (Only.refl (fun k => k = g) w').setCell _ _ fun _ => rfl
  have r0 := h2
  rw [← hlz] at r0
  obtain ⟨A5, c5, e5, hA5⟩ := rowIn_of_own tyCells 3 (fun _ => rfl) r0
  cases e5
  obtain ⟨b5, off5, e6, _, hc5⟩ := hA5 j _ hj
  cases e6
  have g0 := hc5 0 _ rfl
  have g1 := hc5 1 _ rfl
  have g2 := hc5 2 _ rfl
  simp only [Nat.zero_add, Nat.add_zero] at g0 g1 g2
  refine ⟨pA, pc, A', c', w', _, rfl, cell_of_row W B 0 _ 26 (0, 0) h1, g0, g1, g2, Lib.hid ⟨hgl, h3 g rfl⟩, hrun, hcell, hfz, rfl, ⟨hb.os, hb.tape, hb.output, hb.size, hb.block⟩, ?_, ?_, ?_, h3, fun z hz g' hg' => ?_⟩
  · have b0 : Below (W.alloc o).heap.size (W.alloc o) w' := ⟨hb.os, hb.tape, hb.output, hb.size, hb.block⟩
    exact (Only.of_below (S := fun k => k = g) b0).trans ho9 (fun _ _ h => h)
  · exact (ho9.block _ (Nat.lt_of_lt_of_le hB hbW.size) (fun e => h3 g rfl e.symm)).trans ((hbW.block _ hB).trans h1)
  · exact row_setTy r' hj
  · cases hg'
    rcases List.mem_or_eq_of_mem_set hz with hz | rfl
    · obtain ho := h4 z hz g rfl
      exact (ho.only (Only.of_below hbW)).only (ho9.mono fun _ _ e => .inl e)
    · have : BsOff w' g H (.slice A' t.params.length c') t.params := BsOff.of_own hown (by simp; omega) (fun k hk => hH k (by simp at hk; omega))
      exact this.only (ho9.mono fun _ _ e => .inl e)
end Go.Proofs.YtklfojmflmablaaGreatDoor
/- arena.Add. -/
namespace Go.Proofs.YtklfojmflmablaaGreatDoor
open Go Go.RowKit Go.Shelf
attribute [local go_sem ↓] append_shut

/-- An arena with further types, or the error. -/
def moreAr (a : Ar) (l : List Ty) : Ar := ⟨a.ids ++ l, a.root, a.jumps⟩
def addRes (a : Ar) (l : List Ty) : Ar × Int := if checkRes a ≠ 0 then (zeroAr, checkRes a) else if checkRes (moreAr a l) ≠ 0 then (zeroAr, checkRes (moreAr a l)) else (moreAr a l, 0)
theorem results_add {tmps : Array Value} {W : World} {B : Nat} {v : Value} {root : Bs} {ju : Bool} {e : Int} (h : BoxA W B v root ju) (t4 : tmps[4]?.getD undef = .pointer (some ⟨B, 0, none⟩)) (t5 : tmps[5]?.getD undef = .int .i64 e) :
    (results Tryz.f40 tmps).run Tryz.prog W = .ok (.tuple #[arV v root ju, .int .i64 e]) W := by
  have c0 := cell_of_row W B 0 _ 26 (0, 0) h
  have c1 := cell_of_row W B 1 _ 26 (0, 0) h
  have c2 := cell_of_row W B 2 _ 26 (0, 0) h
  have c3 := cell_of_row W B 3 _ 26 (0, 0) h
  simp [results, Tryz.results40, t4, t5, go_sem, loadVar, c0, c1, c2, c3, arV]
theorem boxA_cells {W : World} {B : Nat} {v : Value} {r : Bs} {j : Bool} (h : BoxA W B v r j) : W.cell? ⟨B, 0, none⟩ = some v ∧ W.cell? ⟨B, 1, none⟩ = some (.bool r.cell) ∧ W.cell? ⟨B, 2, none⟩ = some (.int .i64 r.n) ∧ W.cell? ⟨B, 3, none⟩ = some (.bool j) :=
  ⟨cell_of_row W B 0 _ 26 (0, 0) h, cell_of_row W B 1 _ 26 (0, 0) h, cell_of_row W B 2 _ 26 (0, 0) h, cell_of_row W B 3 _ 26 (0, 0) h⟩
theorem boxA_below {W W' : World} {B : Nat} {v : Value} {r : Bs} {j : Bool} (h : BoxA W B v r j) (hb : Below W.heap.size W W') : BoxA W' B v r j := (hb.block _ h.lt).trans h

theorem row_off {W W' : World} {n₀ k size B : Nat} {e : TypeId} {v : Value} {xs : List Value} (h : W.ownsRow n₀ e size v k xs) (ho : Only (fun b => b = B) W W') (hne : ∀ g, v.ownBlock = some g → g ≠ B) : W'.ownsRow n₀ e size v k xs := by
  refine ⟨h.1, ?_⟩
  rcases h.2 with hn | ⟨g, cap, cur, rfl, hb', hg, rest⟩
  · exact .inl hn
  · exact .inr ⟨g, cap, cur, rfl, hb', (ho.block g (Array.getElem?_eq_some_iff.1 hg).1 (hne g rfl)).trans hg, rest⟩

set_option maxRecDepth 100000 in
set_option maxHeartbeats 1000000 in
theorem arAdd_any (v u : Value) (a : Ar) (l : List Ty) (w : World) (hl : a.ids.length ≤ 1000) (hl2 : l.length ≤ 1000) (hpl : ∀ t ∈ a.ids ++ l, t.params.length ≤ 1000) (hv : TyIn w w.heap.size v a.ids) (hu : TyIn w w.heap.size u l) :
    Calls Tryz.prog 40 #[arV v a.root a.jumps, u] w fun e w' => ∃ v', e = .returned (.tuple #[arV v' (addRes a l).1.root (addRes a l).1.jumps, .int .i64 (addRes a l).2]) ∧ TyIn w' w'.heap.size v' (addRes a l).1.ids ∧ Below w.heap.size w w' := by
  have hp1 : ∀ t ∈ a.ids, t.params.length ≤ 140737488355328 := fun t ht => by have := hpl t (List.mem_append_left _ ht); omega
  have CC : Hid (∀ W, Below w.heap.size w W → Calls Tryz.prog 20 #[arV v a.root a.jumps] W fun e w' => e = .returned (.int .i64 (checkRes a)) ∧ Below W.heap.size W w') := Lib.hid fun W hW => check_any v a W (by omega) hp1 (tyIn_later hv hW)
  have CM : Hid (∀ W x, TyIn W W.heap.size x (a.ids ++ l) → Calls Tryz.prog 20 #[arV x a.root a.jumps] W fun e w' => e = .returned (.int .i64 (checkRes (moreAr a l))) ∧ Below W.heap.size W w') := Lib.hid fun W x hx => check_any x (moreAr a l) W (by show (a.ids ++ l).length ≤ _; rw [List.length_append]; omega) (fun t ht => by have := hpl t ht; omega) hx
  have HPL := Lib.hid hpl
  obtain ⟨A, c, rfl⟩ := tyIn_slice hv
  obtain ⟨A2, c2, rfl⟩ := tyIn_slice hu
  have CE : Hid (∀ W b, Below w.heap.size w W → b < W.heap.size → W.cell? ⟨b, 0, none⟩ = some (.slice A a.ids.length c) → W.cell? ⟨b, 1, none⟩ = some (.slice A2 l.length c2) → Calls Tryz.prog 106 #[.slice (some ⟨b, 0, none⟩) 2 2] W fun e w' =>
      ∃ (A' : Option Addr) (c' : Nat) (zs : List (Value × Ty)), e = .returned (.slice A' (a.ids ++ l).length c') ∧ Hid (zs.map Prod.snd = a.ids ++ l ∧ (∀ z ∈ zs, BsIn w w.heap.size z.1 z.2.params)) ∧ Hid (w'.ownsRow W.heap.size 64 3 (.slice A' (a.ids ++ l).length c') (a.ids ++ l).length (zs.flatMap tyCells)) ∧ Below W.heap.size W w') := Lib.hid fun W b hW hb h0 h1 => by
    obtain ⟨z1, m1, b1, k1⟩ := tyIn_cells (Nat.le_refl _) hv
    obtain ⟨z2, m2, b2, k2⟩ := tyIn_cells (Nat.le_refl _) hu
    have e1 : z1.length = a.ids.length := by have := congrArg List.length m1; simpa using this
    have e2 : z2.length = l.length := by have := congrArg List.length m2; simpa using this
    have one : ∀ (n : Nat) (z : Value × Ty), BsIn w n z.1 z.2.params → z.1.oneCell' = true := fun n z h => by obtain ⟨A, c, e⟩ := bsIn_slice h; rw [e]; rfl
    refine (concat_any b A A2 c c2 z1 z2 W hb (by rw [e1]; exact h0) (by rw [e2]; exact h1) (by omega) (by omega) (k1.later hW) (k2.later hW) (fun z hz => one _ z (b1 z hz)) (fun z hz => one _ z (b2 z hz))).mono ?_
    rintro e w' ⟨A', c', rfl, ho, hb'⟩
    have e3 : (z1 ++ z2).length = (a.ids ++ l).length := by rw [List.length_append, List.length_append, e1, e2]
    rw [e3] at ho ⊢
    refine ⟨A', c', z1 ++ z2, rfl, Lib.hid ⟨by rw [List.map_append, m1, m2], fun z hz => ?_⟩, ho, hb'⟩
    rcases List.mem_append.1 hz with hz | hz
    · exact b1 z hz
    · exact b2 z hz
  obtain ⟨N, hN⟩ : ∃ N, (a.ids ++ l).length = N := ⟨_, rfl⟩
  rw [hN] at CE
  have HN := Lib.hid hN
  clear hN
  obtain ⟨w1, hw1⟩ : ∃ w1, (w.alloc (.cells #[.slice A a.ids.length c, .bool a.root.cell, .int .i64 a.root.n, .bool a.jumps] 26)).alloc (.cells #[.slice none 0 0, .bool false, .int .i64 0, .bool false] 26) = w1 := ⟨_, rfl⟩
  have hb : Below w.heap.size w w1 := by rw [← hw1]; exact ((Below.refl _ w).alloc (Nat.le_refl _) _).alloc (by simp) _
  have x0 : BoxA w1 w.heap.size (.slice A a.ids.length c) a.root a.jumps := by rw [← hw1]; exact (Below.heap_alloc _ _ _ (by simp)).trans (World.alloc_heap_new w _)
  have x1 : BoxA w1 (w.heap.size + 1) (.slice none 0 0) ⟨false, 0⟩ false := by
    rw [← hw1]
    have := World.alloc_heap_new (w.alloc (.cells #[.slice A a.ids.length c, .bool a.root.cell, .int .i64 a.root.n, .bool a.jumps] 26)) (.cells #[.slice none 0 0, .bool false, .int .i64 0, .bool false] 26); rwa [World.size_alloc] at this
  have HB := Lib.hid hb
  have HX0 := Lib.hid x0
  have HX1 := Lib.hid x1
  obtain ⟨k0, k1, k2, k3⟩ := boxA_cells x0
  obtain ⟨r, hr⟩ : ∃ r, checkRes a = r := ⟨_, rfl⟩
  obtain ⟨s, hs⟩ : ∃ s, checkRes (moreAr a l) = s := ⟨_, rfl⟩
  have HR : Hid (addRes a l = if r ≠ 0 then (zeroAr, r) else if s ≠ 0 then (zeroAr, s) else (moreAr a l, 0)) := Lib.hid (by unfold addRes; rw [hr, hs])
  rw [hr] at CC
  rw [hs] at CM
  unfold arV at CC CM ⊢
  clear hb x0 x1 hr hs hv hu hp1
  by_cases h0 : r = 0
  · subst h0
    have hne : ((0 : Int) != 0) = false := rfl
    go_enter Tryz.func40, Tryz.ntmps40
    go_wp2_with (go_at_call 20; refine (CC.out _ HB.out).mono ?_; rintro e w2 ⟨rfl, hb2⟩)
    have h2 : Below w.heap.size w w2 := HB.out.trans (hb2.mono HB.out.size)
    have HB2 := Lib.hid h2
    have HX2 : Hid (BoxA w2 w.heap.size (.slice A a.ids.length c) a.root a.jumps) := Lib.hid (boxA_below HX0.out hb2)
    have HO2 : Hid (BoxA w2 (w.heap.size + 1) (.slice none 0 0) ⟨false, 0⟩ false) := Lib.hid (boxA_below HX1.out hb2)
    have HLT : Hid (w.heap.size + 2 ≤ w2.heap.size) := Lib.hid (by have := HO2.out.lt; omega)
    obtain ⟨q0, q1, q2, q3⟩ := boxA_cells HX2.out
    clear h2 hb2 k0 k1 k2 k3
    go_region_held3 (fun W => W.cell? ⟨w.heap.size, 0, none⟩ = some (.slice A a.ids.length c) ∧ W.cell? ⟨w.heap.size, 1, none⟩ = some (.bool a.root.cell) ∧ W.cell? ⟨w.heap.size, 2, none⟩ = some (.int .i64 a.root.n) ∧ W.cell? ⟨w.heap.size, 3, none⟩ = some (.bool a.jumps))
      (first
        | go_keep
        | (go_split_ands
           refine ⟨?_, ?_, ?_, ?_⟩ <;> (repeat' (first
             | assumption
             | refine cell_alloc_some _ ?_
             | refine (H24.out.cell (by have h2 := HLT.out; simp; omega)).trans ?_
             | refine (hb6.cell (by have h2 := HLT.out; simp; omega)).trans ?_)))
        | (trace_state; fail))
      ((go_at_call 106; first
        | ((with_reducible refine (CE.out (w2.alloc (.cells #[.slice A a.ids.length c, .slice A2 l.length c2] 22)).drew (w2.heap.size) ?_ ?_ ?_ ?_).mono ?_); go_loud ((exact HB2.out.trans ((((Below.refl _ w2).alloc (Nat.le_refl _) _).drew).mono HB2.out.size)); (focus (first | (simp; done) | (simp; omega))); (exact cell_of_row _ _ 0 _ 22 (0, 0) (show ((w2.alloc (.cells #[.slice A a.ids.length c, .slice A2 l.length c2] 22)).drew).heap[w2.heap.size]? = some (.cells #[.slice A a.ids.length c, .slice A2 l.length c2] 22 (0, 0)) from (World.alloc_heap_new w2 _))); (exact cell_of_row _ _ 1 _ 22 (0, 0) (show ((w2.alloc (.cells #[.slice A a.ids.length c, .slice A2 l.length c2] 22)).drew).heap[w2.heap.size]? = some (.cells #[.slice A a.ids.length c, .slice A2 l.length c2] 22 (0, 0)) from (World.alloc_heap_new w2 _))); rintro e w6 ⟨A', c', zs, rfl, hzs, hown, hb6⟩; have hbW : Below w2.heap.size w2 (w2.alloc (.cells #[.slice A a.ids.length c, .slice A2 l.length c2] 22)).drew := ((Below.refl _ w2).alloc (Nat.le_refl _) _).drew; have hb26 : Below w2.heap.size w2 w6 := hbW.trans (hb6.mono hbW.size); obtain ⟨y4, hy4⟩ : ∃ y4, w6.alloc (.cells #[(.slice A' N c'), .bool a.root.cell, .int .i64 a.root.n, .bool a.jumps] 26) = y4 := ⟨_, rfl⟩; have HY : Hid (BoxA y4 w6.heap.size (.slice A' N c') a.root a.jumps) := Lib.hid (hy4 ▸ World.alloc_heap_new w6 _); have H24 : Hid (Below w2.heap.size w2 y4) := Lib.hid (hy4 ▸ hb26.alloc hb26.size _); have HNE : Hid (∀ g, ((.slice A' N c') : Value).ownBlock = some g → g ≠ w6.heap.size) := Lib.hid (fun g hg => by have := (rowAt hown.out hg).2; omega); have HROW : Hid (y4.ownsRow w2.heap.size 64 3 (.slice A' N c') N (zs.flatMap tyCells)) := Lib.hid (hy4 ▸ rowLess (hown.out.alloc _) hbW.size)))
        | ((with_reducible refine (CE.out ((w2.alloc (.cells #[.slice none 0 0, .bool false, .int .i64 0, .bool false] 26)).alloc (.cells #[.slice A a.ids.length c, .slice A2 l.length c2] 22)).drew (w2.heap.size + 1) ?_ ?_ ?_ ?_).mono ?_); go_loud ((exact HB2.out.trans (((((Below.refl _ w2).alloc (Nat.le_refl _) _).alloc (by simp) _).drew).mono HB2.out.size)); (focus (first | (simp; done) | (simp; omega))); (exact cell_of_row _ _ 0 _ 22 (0, 0) (show (((w2.alloc (.cells #[.slice none 0 0, .bool false, .int .i64 0, .bool false] 26)).alloc (.cells #[.slice A a.ids.length c, .slice A2 l.length c2] 22)).drew).heap[w2.heap.size + 1]? = some (.cells #[.slice A a.ids.length c, .slice A2 l.length c2] 22 (0, 0)) from (by have := World.alloc_heap_new (w2.alloc (.cells #[.slice none 0 0, .bool false, .int .i64 0, .bool false] 26)) (.cells #[.slice A a.ids.length c, .slice A2 l.length c2] 22); rwa [World.size_alloc] at this))); (exact cell_of_row _ _ 1 _ 22 (0, 0) (show (((w2.alloc (.cells #[.slice none 0 0, .bool false, .int .i64 0, .bool false] 26)).alloc (.cells #[.slice A a.ids.length c, .slice A2 l.length c2] 22)).drew).heap[w2.heap.size + 1]? = some (.cells #[.slice A a.ids.length c, .slice A2 l.length c2] 22 (0, 0)) from (by have := World.alloc_heap_new (w2.alloc (.cells #[.slice none 0 0, .bool false, .int .i64 0, .bool false] 26)) (.cells #[.slice A a.ids.length c, .slice A2 l.length c2] 22); rwa [World.size_alloc] at this))); rintro e w6 ⟨A', c', zs, rfl, hzs, hown, hb6⟩; have hbW : Below w2.heap.size w2 ((w2.alloc (.cells #[.slice none 0 0, .bool false, .int .i64 0, .bool false] 26)).alloc (.cells #[.slice A a.ids.length c, .slice A2 l.length c2] 22)).drew := (((Below.refl _ w2).alloc (Nat.le_refl _) _).alloc (by simp) _).drew; have hb26 : Below w2.heap.size w2 w6 := hbW.trans (hb6.mono hbW.size); obtain ⟨y1, y2, y3, y4, e1, e2, e3, e4, s0, f0, s1, f1, s2, f2, s3, f3, hy, ho⟩ := chain26 (W := w6) (B := w2.heap.size) (v := .slice none 0 0) (root := ⟨false, 0⟩) (ju := false) ((hb6.block _ (by first | (simp; done) | (simp; omega))).trans ((Below.heap_alloc _ _ _ (by simp)).trans (World.alloc_heap_new w2 _))) (.slice A' N c') a.root a.jumps; have HY : Hid (BoxA y4 (w2.heap.size) (.slice A' N c') a.root a.jumps) := Lib.hid hy; have H24 : Hid (Below w2.heap.size w2 y4) := Lib.hid (hb26.trans (ho.below _ hb26.size (fun b hb h => by omega))); have HNE : Hid (∀ g, ((.slice A' N c') : Value).ownBlock = some g → g ≠ w2.heap.size) := Lib.hid (fun g hg => by have := (rowAt hown.out hg).1; simp at this; omega); have HROW : Hid (y4.ownsRow w2.heap.size 64 3 (.slice A' N c') N (zs.flatMap tyCells)) := Lib.hid (row_off (rowLess hown.out hbW.size) ho HNE.out)))
        | ((with_reducible refine (CE.out ((w2.alloc (.cells #[.slice A a.ids.length c, .slice A2 l.length c2] 22)).alloc (.cells #[.slice none 0 0, .bool false, .int .i64 0, .bool false] 26)).drew (w2.heap.size) ?_ ?_ ?_ ?_).mono ?_); go_loud ((exact HB2.out.trans (((((Below.refl _ w2).alloc (Nat.le_refl _) _).alloc (by simp) _).drew).mono HB2.out.size)); (focus (first | (simp; done) | (simp; omega))); (exact cell_of_row _ _ 0 _ 22 (0, 0) (show (((w2.alloc (.cells #[.slice A a.ids.length c, .slice A2 l.length c2] 22)).alloc (.cells #[.slice none 0 0, .bool false, .int .i64 0, .bool false] 26)).drew).heap[w2.heap.size]? = some (.cells #[.slice A a.ids.length c, .slice A2 l.length c2] 22 (0, 0)) from ((Below.heap_alloc _ _ _ (by simp)).trans (World.alloc_heap_new w2 _)))); (exact cell_of_row _ _ 1 _ 22 (0, 0) (show (((w2.alloc (.cells #[.slice A a.ids.length c, .slice A2 l.length c2] 22)).alloc (.cells #[.slice none 0 0, .bool false, .int .i64 0, .bool false] 26)).drew).heap[w2.heap.size]? = some (.cells #[.slice A a.ids.length c, .slice A2 l.length c2] 22 (0, 0)) from ((Below.heap_alloc _ _ _ (by simp)).trans (World.alloc_heap_new w2 _)))); rintro e w6 ⟨A', c', zs, rfl, hzs, hown, hb6⟩; have hbW : Below w2.heap.size w2 ((w2.alloc (.cells #[.slice A a.ids.length c, .slice A2 l.length c2] 22)).alloc (.cells #[.slice none 0 0, .bool false, .int .i64 0, .bool false] 26)).drew := (((Below.refl _ w2).alloc (Nat.le_refl _) _).alloc (by simp) _).drew; have hb26 : Below w2.heap.size w2 w6 := hbW.trans (hb6.mono hbW.size); obtain ⟨y1, y2, y3, y4, e1, e2, e3, e4, s0, f0, s1, f1, s2, f2, s3, f3, hy, ho⟩ := chain26 (W := w6) (B := w2.heap.size + 1) (v := .slice none 0 0) (root := ⟨false, 0⟩) (ju := false) ((hb6.block _ (by first | (simp; done) | (simp; omega))).trans (by have := World.alloc_heap_new (w2.alloc (.cells #[.slice A a.ids.length c, .slice A2 l.length c2] 22)) (.cells #[.slice none 0 0, .bool false, .int .i64 0, .bool false] 26); rwa [World.size_alloc] at this)) (.slice A' N c') a.root a.jumps; have HY : Hid (BoxA y4 (w2.heap.size + 1) (.slice A' N c') a.root a.jumps) := Lib.hid hy; have H24 : Hid (Below w2.heap.size w2 y4) := Lib.hid (hb26.trans (ho.below _ hb26.size (fun b hb h => by omega))); have HNE : Hid (∀ g, ((.slice A' N c') : Value).ownBlock = some g → g ≠ w2.heap.size + 1) := Lib.hid (fun g hg => by have := (rowAt hown.out hg).1; simp at this; omega); have HROW : Hid (y4.ownsRow w2.heap.size 64 3 (.slice A' N c') N (zs.flatMap tyCells)) := Lib.hid (row_off (rowLess hown.out hbW.size) ho HNE.out)))))
    have HB7 : Hid (w2.heap.size ≤ w6.heap.size) := Lib.hid (by have := hb26.size; omega)
    obtain ⟨B7, hB7⟩ : ∃ B, w6.heap.size = B := ⟨_, rfl⟩
    rw [hB7] at HY HNE HB7 ⊢
    clear hB7 hy4 hb26 hbW hb6 hown
    rotate_left 1
    have HB7 : Hid (w2.heap.size ≤ w2.heap.size + 1) := Lib.hid (by omega)
    obtain ⟨B7, hB7⟩ : ∃ B, w2.heap.size + 1 = B := ⟨_, rfl⟩
    rw [hB7] at HY HNE HB7 ⊢
    clear hB7 e1 e2 e3 e4 s0 f0 s1 f1 s2 f2 s3 f3 hy ho hb26 hbW hb6 hown
    rotate_left 1
    have HB7 : Hid (w2.heap.size ≤ w2.heap.size) := Lib.hid (Nat.le_refl _)
    obtain ⟨B7, hB7⟩ : ∃ B, w2.heap.size = B := ⟨_, rfl⟩
    rw [hB7] at HY HNE HB7 ⊢
    clear hB7 e1 e2 e3 e4 s0 f0 s1 f1 s2 f2 s3 f3 hy ho hb26 hbW hb6 hown
    rotate_left 1
    all_goals (
      have hzl : zs.length = N := by have := congrArg List.length hzs.out.1; rw [List.length_map, HN.out] at this; exact this
      have HBy : Hid (Below w.heap.size w y4) := Lib.hid (HB2.out.trans (H24.out.mono HB2.out.size))
      have HTY : Hid (TyIn y4 y4.heap.size (.slice A' N c') (a.ids ++ l)) := Lib.hid (by
        have := tyIn_own (zs := zs) (W := y4) (n₀ := w2.heap.size) (v := (.slice A' N c')) (by rw [hzl]; exact HROW.out) (fun z hz => ((hzs.out.2 z hz).below HBy.out.block).more HBy.out.size)
        rwa [hzs.out.1] at this)
      have HINV : Hid (AddInv y4 w2.heap.size B7 (fun k => k = w.heap.size + 1) (.slice A' N c') N zs a.root a.jumps) := Lib.hid ⟨HY.out, HROW.out, HNE.out, fun z hz g hg => BsOff.of_in (hzs.out.2 z hz) HBy.out HBy.out.size (Nat.le_trans HB2.out.size (rowAt HROW.out hg).1) (fun k hk e => by omega)⟩
      have HO4 : Hid (BoxA y4 (w.heap.size + 1) (.slice none 0 0) ⟨false, 0⟩ false) := Lib.hid ((H24.out.block _ HO2.out.lt).trans HO2.out)
      have HZM : Hid (zs.map Prod.snd = a.ids ++ l) := Lib.hid hzs.out.1
      obtain ⟨k0, k1, k2, k3⟩ := boxA_cells HY.out
      rename_i hheld
      clear hheld hzs q0 q1 q2 q3 hzl
      have CX := Lib.hid (CM.out _ _ HTY.out)
      by_cases hs0 : s = 0
      · subst hs0
        go_wp2_with (go_at_call 20; refine CX.out.mono ?_; rintro e w8 ⟨rfl, hb8⟩; have HY8 : Hid (BoxA w8 B7 (.slice A' N c') a.root a.jumps) := Lib.hid ((hb8.block _ HY.out.lt).trans HY.out); obtain ⟨m0, m1, m2, m3⟩ := boxA_cells HY8.out)
        have HM := Lib.hid (show addRes a l = (moreAr a l, 0) by rw [HR.out, if_neg (by simp), if_neg (by simp)])
        have HI8 : Hid (AddInv w8 w2.heap.size B7 (fun k => k = w.heap.size + 1) (.slice A' N c') N zs a.root a.jumps) := Lib.hid ⟨HY8.out, row_below HROW.out hb8, HNE.out, fun z hz g hg => (HINV.out.2.2.2 z hz g hg).only (Only.of_below hb8)⟩
        have HB8 : Hid (Below w2.heap.size w2 w8) := Lib.hid (H24.out.trans (hb8.mono H24.out.size))
        have HN2 : Hid (N ≤ 2000) := Lib.hid (by rw [← HN.out, List.length_append]; omega)
        clear hb8 k0 k1 k2 k3
        go_loopw [9, 10, 36] (fun _ _ k wr => ∃ (j : Nat) (zs : List (Value × Ty)), k = .int .i64 (j : Int) ∧ j ≤ N ∧ Hid (zs.map Prod.snd = a.ids ++ l) ∧ Hid (AddInv wr w2.heap.size B7 (fun k => k = w.heap.size + 1) (.slice A' N c') N zs a.root a.jumps) ∧ Hid (Below w2.heap.size w2 wr)) (fun _ _ k _ => N + 1 - (intOf k).toNat)
        case atStart => exact ⟨0, zs, rfl, Nat.zero_le _, HZM, HI8, HB8⟩
        case round =>
          obtain ⟨j, zs, rfl, hj, HZ, HI, HB⟩ := hrel
          by_cases hlt : j < N
          · have hn2 := HN2.out
            have hle : (j : Int) < (N : Int) := by omega
            have k0 : (0 : Int) ≤ (j : Int) := by omega
            obtain ⟨g, rfl⟩ : ∃ g, A' = some ⟨g, 0, none⟩ := by
              rcases HI.out.2.1.2 with ⟨e, h0⟩ | ⟨g, cap, cur, e, _⟩
              · omega
              · cases e; exact ⟨g, rfl⟩
            have hzl : zs.length = N := by have := congrArg List.length HZ.out; rw [List.length_map, HN.out] at this; exact this
            obtain ⟨⟨pv, t⟩, hz⟩ : ∃ z, zs[j]? = some z := ⟨_, List.getElem?_eq_getElem (by omega)⟩
            have htm : t ∈ a.ids ++ l := by rw [← HZ.out]; exact List.mem_map.2 ⟨_, List.mem_of_getElem? hz, rfl⟩
            have HBL : Hid (B7 < wr.heap.size) := Lib.hid HI.out.1.lt
            obtain ⟨pA, pc, A9, c9, w', w9, rfl, x0, x1, x2, x3, HG, hrun, s0, f0, st, hbA, ho9, hinv⟩ := addInv_round HBL.out (fun k hk e => by have h1 := HLT.out; have h2 := HB.out.size; omega) HI.out hz (HPL.out t htm) (.cells #[pv, .bool t.result.cell, .int .i64 t.result.n] 64)
            have HINV9 := Lib.hid hinv
            have HZ9 : Hid ((zs.set j (.slice A9 t.params.length c9, t)).map Prod.snd = a.ids ++ l) := Lib.hid (by
              rw [List.map_set, HZ.out]
              obtain ⟨hj', e⟩ := List.getElem?_eq_some_iff.1 hz
              have : (a.ids ++ l)[j]? = some t := by rw [← HZ.out, List.getElem?_map, hz]; rfl
              apply List.ext_getElem?
              intro i
              rw [List.getElem?_set]
              split
              · rename_i e2; subst e2; rw [this, if_pos (List.getElem?_eq_some_iff.1 this).1]
              · rfl)
            have HB9 : Hid (Below w2.heap.size w2 w9) := Lib.hid (HB.out.trans (((Below.refl _ wr).alloc HB.out.size _).trans (ho9.below _ (by have := HB.out.size; simp; omega) (fun k hk e => by have := (rowAt HI.out.2.1 (g := g) rfl).1; omega))))
            have xn : (wr.alloc (.cells #[.slice pA t.params.length pc, .bool t.result.cell, .int .i64 t.result.n] 64)).cell? ⟨wr.heap.size, 0, none⟩ = some (.slice pA t.params.length pc) := cell_of_row _ _ 0 _ 64 (0, 0) (World.alloc_heap_new wr _)
            clear hinv hz htm hzl
            go_wp2
            go_region_held3 (fun W => W.cell? ⟨B7, 0, none⟩ = some (.slice (some ⟨g, 0, none⟩) N c') ∧ W.cell? ⟨wr.heap.size, 0, none⟩ = some (.slice pA t.params.length pc))
              (first
                | go_keep
                | (go_split_ands
                   refine ⟨?_, ?_⟩ <;> (repeat' (first
                     | assumption
                     | refine cell_alloc_some _ ?_
                     | refine (ho9.cell (by have h2 := HBL.out; first | (simp; done) | (simp; omega)) (by have h2 := HG.out; first | (simp; done) | (simp; omega))).trans ?_
                     | refine (hbA.cell (by have h2 := HBL.out; first | (simp; done) | (simp; omega))).trans ?_)))
                | (trace_state; fail))
              (fail)
            all_goals (
              go_wp2
              go_roundw
              case rel => exact ⟨j + 1, _, by simp, by omega, HZ9, HINV9, HB9⟩
              case measure => simp [intOf]; omega)
          · obtain rfl : j = N := by omega
            have hzl : zs.length = j := by have := congrArg List.length HZ.out; rw [List.length_map, HN.out] at this; exact this
            have HZL := Lib.hid hzl
            clear hzl
            have hnlt : ¬ ((j : Int) < (j : Int)) := by omega
            obtain ⟨m0, m1, m2, m3⟩ := boxA_cells HI.out.1
            obtain ⟨x1, x2, x3, x4, e1, e2, e3, e4, s0, f0, s1, f1, s2, f2, s3, f3, hx4, ho⟩ := chain26 ((HB.out.block _ HO2.out.lt).trans HO2.out) (.slice A' j c') a.root a.jumps
            have HX4 := Lib.hid hx4
            have HOX := Lib.hid ho
            clear hx4 ho
            go_wp2
            refine bodyPost_ret (results_add HX4.out rfl rfl) rfl ?_
            rw [HM.out]
            have hbx : Below (w.heap.size + 1) wr x4 := HOX.out.below _ (by have h1 := HO2.out.lt; have h2 := HB.out.size; omega) (fun b hb h => by omega)
            refine ⟨_, rfl, ?_, (HB2.out.trans (HB.out.mono HB2.out.size)).trans (hbx.mono (by omega))⟩
            exact addInv_tyIn HI.out HZL.out HZ.out HOX.out (fun k hk => ⟨hk, fun g hg e => by have h1 := (rowAt HI.out.2.1 hg).1; have h2 := HLT.out; omega⟩)
      · have HM := Lib.hid (show addRes a l = (zeroAr, s) by rw [HR.out, if_neg (by simp), if_pos hs0])
        have hne2 : (s != 0) = true := by simpa using hs0
        clear hs0
        go_wp2_with (go_at_call 20; refine CX.out.mono ?_; rintro e w8 ⟨rfl, hb8⟩; obtain ⟨x1, x2, x3, x4, e1, e2, e3, e4, s0, f0, s1, f1, s2, f2, s3, f3, hx4, ho⟩ := chain26 (boxA_below HO4.out hb8) (.slice none 0 0) ⟨false, 0⟩ false)
        refine bodyPost_ret (results_add hx4 rfl rfl) rfl ?_
        rw [HM.out]
        exact ⟨_, rfl, ⟨none, 0, rfl, fun i x hx => by simp [zeroAr] at hx⟩, HBy.out.trans ((hb8.mono HBy.out.size).trans (ho.below _ (Nat.le_trans HBy.out.size hb8.size) (fun b hb h => by omega)))⟩)
  · have hm : addRes a l = (zeroAr, r) := by rw [HR.out, if_pos h0]
    rw [hm]
    unfold zeroAr
    dsimp only
    have hne : (r != 0) = true := by simpa using h0
    clear HR hm CM h0
    go_enter Tryz.func40, Tryz.ntmps40
    go_wp2_with (go_at_call 20; refine (CC.out _ HB.out).mono ?_; rintro e w2 ⟨rfl, hb2⟩; obtain ⟨x1, x2, x3, x4, e1, e2, e3, e4, s0, f0, s1, f1, s2, f2, s3, f3, hx4, ho⟩ := chain26 (boxA_below HX1.out hb2) (.slice none 0 0) ⟨false, 0⟩ false)
    refine bodyPost_ret (results_add hx4 rfl rfl) rfl ?_
    exact ⟨_, rfl, ⟨none, 0, rfl, fun i x hx => by simp at hx⟩, HB.out.trans ((hb2.mono HB.out.size).trans (ho.below _ (Nat.le_trans HB.out.size hb2.size) (fun b hb h => by omega)))⟩
end Go.Proofs.YtklfojmflmablaaGreatDoor
/- The reference's Add. -/
namespace Go.Proofs.YtklfojmflmablaaGreatDoor
open Go Go.RowKit Go.Shelf
attribute [local go_sem ↓] append_shut

/-- A slice of types that is all its own, with params that are, too. -/
def OwnTys (W : World) (n : Nat) (v : Value) (l : List Ty) : Prop := ∃ zs : List (Value × Ty), zs.map Prod.snd = l ∧ W.ownsRow n 64 3 v zs.length (zs.flatMap tyCells) ∧ ∀ z ∈ zs, W.ownsRow n 24 2 z.1 z.2.params.length (z.2.params.flatMap bsCells) ∧ (z.1.ownBlock = none ∨ z.1.ownBlock ≠ v.ownBlock)

set_option maxRecDepth 100000 in
set_option maxHeartbeats 1000000 in
theorem copyOwn_any (v : Value) (a : Ar) (w : World) (hl : a.ids.length ≤ 1000) (hpl : ∀ t ∈ a.ids, t.params.length ≤ 1000) (hv : TyIn w w.heap.size v a.ids) :
    Calls Tryz.prog 19 #[arV v a.root a.jumps] w fun e w' => ∃ (A' : Option Addr) (c' : Nat), e = .returned (arV (.slice A' a.ids.length c') a.root a.jumps) ∧ OwnTys w' w.heap.size (.slice A' a.ids.length c') a.ids ∧ Below w.heap.size w w' := by
  have HV := Lib.hid hv
  obtain ⟨A, c, rfl, hA⟩ := hv
  obtain ⟨l, r, ju⟩ := a
  dsimp only at hA hl hpl HV ⊢
  have HA := Lib.hid hA
  have HPL := Lib.hid hpl
  obtain ⟨i0, hi, hz0, hz1, hz2⟩ := info_parts info64
  obtain ⟨w1, hw1⟩ : ∃ w1, ((w.alloc (.cells #[.slice A l.length c, .bool r.cell, .int .i64 r.n, .bool ju] 26)).alloc (.cells #[.slice none 0 0, .bool false, .int .i64 0, .bool false] 26)).alloc (.cells #[.slice none 0 0, .bool r.cell, .int .i64 r.n, .bool ju] 26) = w1 := ⟨_, rfl⟩
  have hsz : w1.heap.size = w.heap.size + 3 := by rw [← hw1]; simp
  have hb : Below w.heap.size w w1 := by rw [← hw1]; exact (((Below.refl _ w).alloc (Nat.le_refl _) _).alloc (by simp) _).alloc (by simp; omega) _
  have x0 : BoxA w1 w.heap.size (.slice A l.length c) r ju := by rw [← hw1]; exact (Below.heap_alloc _ _ _ (by simp; omega)).trans ((Below.heap_alloc _ _ _ (by simp)).trans (World.alloc_heap_new w _))
  have x1 : BoxA w1 (w.heap.size + 1) (.slice none 0 0) ⟨false, 0⟩ false := by
    rw [← hw1]; refine (Below.heap_alloc _ _ _ (by simp)).trans ?_
    have := World.alloc_heap_new (w.alloc (.cells #[.slice A l.length c, .bool r.cell, .int .i64 r.n, .bool ju] 26)) (.cells #[.slice none 0 0, .bool false, .int .i64 0, .bool false] 26); rwa [World.size_alloc] at this
  have x2 : BoxA w1 (w.heap.size + 1 + 1) (.slice none 0 0) r ju := by
    rw [← hw1]
    have := World.alloc_heap_new ((w.alloc (.cells #[.slice A l.length c, .bool r.cell, .int .i64 r.n, .bool ju] 26)).alloc (.cells #[.slice none 0 0, .bool false, .int .i64 0, .bool false] 26)) (.cells #[.slice none 0 0, .bool r.cell, .int .i64 r.n, .bool ju] 26); rwa [World.size_alloc, World.size_alloc] at this
  have HB := Lib.hid hb
  have HS := Lib.hid hsz
  have HX0 := Lib.hid x0
  have HX1 := Lib.hid x1
  have HX2 := Lib.hid x2
  have c0 := cell_of_row w1 _ 0 _ 26 (0, 0) x0
  have c1 := cell_of_row w1 _ 1 _ 26 (0, 0) x0
  have c2 := cell_of_row w1 _ 2 _ 26 (0, 0) x0
  have c3 := cell_of_row w1 _ 3 _ 26 (0, 0) x0
  have c10 : (w.alloc (.cells #[.slice A l.length c, .bool r.cell, .int .i64 r.n, .bool ju] 26)).heap[w.heap.size]? = some (.cells #[.slice A l.length c, .bool r.cell, .int .i64 r.n, .bool ju] 26) := World.alloc_heap_new w _
  unfold arV
  clear hA hb hsz x0 x1 x2 hpl
  go_enter Tryz.func19, Tryz.ntmps19
  go_wp2
  go_loopw [4] (fun i wr => ∃ (j : Nat) (u : Value) (zs : List (Value × Ty)), i = .int .i64 j ∧ j ≤ l.length ∧ Hid (zs.map Prod.snd = l.take j) ∧ Hid (CopyInv wr (w.heap.size + 3) (w.heap.size + 1 + 1) u zs r ju) ∧ Hid (Below w.heap.size w wr) ∧ Hid (BoxA wr w.heap.size (.slice A l.length c) r ju) ∧ Hid (BoxA wr (w.heap.size + 1) (.slice none 0 0) ⟨false, 0⟩ false)) (fun i _ => l.length - (intOf i).toNat)
  case atStart => exact ⟨0, _, [], rfl, Nat.zero_le _, Lib.hid rfl, Lib.hid (copy_new HX2.out), HB, HX0, HX1⟩
  case round =>
    obtain ⟨j, u, zs, rfl, hj, HZ, HI, hB, hY0, hY1⟩ := hrel
    have c0 := cell_of_row wr _ 0 _ 26 (0, 0) hY0.out
    have hzl : zs.length = j := by have := congrArg List.length HZ.out; simpa [Nat.min_eq_left hj] using this
    have HZL := Lib.hid hzl
    have hsz3 : w.heap.size + 3 ≤ wr.heap.size := by have := HI.out.1.lt; omega
    have HS3 := Lib.hid hsz3
    clear hzl hsz3
    by_cases hlt : j < l.length
    · obtain ⟨y, hy⟩ : ∃ y, l[j]? = some y := ⟨_, List.getElem?_eq_getElem hlt⟩
      obtain ⟨b, off, pv, rfl, hbn, hbs, e0, e1, e2⟩ := HA.out j y hy
      have HW : Hid (∀ b, b < w.heap.size → wr.heap[b]? = w.heap[b]?) := Lib.hid hB.out.block
      replace e0 := (World.cell?_of_block (HW.out b hbn)).trans e0
      replace e1 := (World.cell?_of_block (HW.out b hbn)).trans e1
      replace e2 := (World.cell?_of_block (HW.out b hbn)).trans e2
      obtain ⟨pA, pc, rfl⟩ := bsIn_slice hbs
      have CC : Hid (∀ W, Below wr.heap.size wr W → Calls Tryz.prog 66 #[tyV (.slice pA y.params.length pc) y.result] W fun e w' => ∃ A' c', e = .returned (tyV (.slice A' y.params.length c') y.result) ∧ w'.ownsRow W.heap.size 24 2 (.slice A' y.params.length c') y.params.length (y.params.flatMap bsCells) ∧ Below W.heap.size W w') := Lib.hid fun W hW => by
        exact copyType_any _ y W (HPL.out y (List.mem_of_getElem? hy)) (bsIn_later hbs (hB.out.trans (hW.mono hB.out.size)))
      have HY := Lib.hid hy
      unfold tyV at CC
      have q0 := HI.out.1
      have d0 := cell_of_row wr _ 0 _ 26 (0, 0) q0
      clear hy hbs q0
      obtain ⟨uA, un, uc, rfl⟩ : ∃ uA un uc, u = .slice uA un uc := by
        rcases HI.out.2.1.2 with ⟨rfl, _⟩ | ⟨g, cap, cur, rfl, _⟩
        · exact ⟨_, _, _, rfl⟩
        · exact ⟨_, _, _, rfl⟩
      go_wp2_with fail
      have HCA : Hid (∀ W6 A' c', Below wr.heap.size wr W6 → W6.ownsRow wr.heap.size 24 2 (.slice A' y.params.length c') y.params.length (y.params.flatMap bsCells) → _) := Lib.hid fun W6 A' c' h6 hp6 => copy_arm (x := y) (by omega) HS3.out (by have := HZL.out; omega) HI.out h6 hp6 rfl
      go_region_with (go_at_call 66; refine (CC.out _ ((Below.refl _ wr).drew)).mono ?_; rintro e W6 ⟨A', c', rfl, hp6, hb6⟩; obtain ⟨k1, k2, g', cap', w8, hrun, k3, k4, HST, HB8⟩ := HCA.out W6 A' c' (((Below.refl _ wr).drew).trans hb6) hp6)
      all_goals go_wp2
      all_goals refine ⟨⟨j + 1, _, _, by simp, by omega, Lib.hid ?_, HST, Lib.hid (hB.out.trans (HB8.out.mono (by omega))), Lib.hid ((HB8.out.block _ (by omega)).trans hY0.out), Lib.hid ((HB8.out.block _ (by omega)).trans hY1.out)⟩, by simp [intOf]; omega⟩
      all_goals rw [List.map_append, HZ.out, take_snoc HY.out]
      all_goals rfl
    · obtain rfl : j = l.length := by omega
      have q0 := HI.out.1
      obtain ⟨uA, un, uc, rfl⟩ : ∃ uA un uc, u = .slice uA un uc := by
        rcases HI.out.2.1.2 with ⟨rfl, _⟩ | ⟨g, cap, cur, rfl, _⟩
        · exact ⟨_, _, _, rfl⟩
        · exact ⟨_, _, _, rfl⟩
      have d0 := cell_of_row wr _ 0 _ 26 (0, 0) q0
      have d1 := cell_of_row wr _ 1 _ 26 (0, 0) q0
      have d2 := cell_of_row wr _ 2 _ 26 (0, 0) q0
      have d3 := cell_of_row wr _ 3 _ 26 (0, 0) q0
      obtain ⟨x1, x2, x3, x4, e1, e2, e3, e4, s0, f0, s1, f1, s2, f2, s3, f3, hx4, ho⟩ := chain26 hY1.out (.slice uA un uc) r ju
      have HX4 := Lib.hid hx4
      have HO := Lib.hid ho
      have HT : Hid (TyIn wr wr.heap.size (.slice uA un uc) l) := Lib.hid (by have := copy_done HI.out; rwa [HZ.out, List.take_length] at this)
      have HI2 := Lib.hid (copy_only HI.out ho (by omega) (by omega))
      clear q0 hx4 ho
      go_wp2
      refine bodyPost_ret (results_copy HX4.out rfl) rfl ?_
      have hun : un = l.length := by
        have hzl : zs.length = l.length := by have := congrArg List.length HZ.out; simpa using this
        rcases HI2.out.2.1.2 with ⟨e, h0⟩ | ⟨g, cap, cur, e, _⟩
        · cases e; omega
        · cases e; exact hzl
      subst hun
      refine ⟨uA, uc, rfl, ⟨zs, by rw [HZ.out, List.take_length], rowLess HI2.out.2.1 (by omega), fun z hz => ⟨rowLess (HI2.out.2.2 z hz).1 (by omega), (HI2.out.2.2 z hz).2⟩⟩, hB.out.trans (HO.out.below _ hB.out.size (fun b hb h => by omega))⟩

/-- An element more, behind a call that has made its params. -/
theorem addInv_more {W W6 : World} {n0 B N : Nat} {H : Nat → Prop} {v pv' : Value} {zs : List (Value × Ty)} {x : Ty} {root : Bs} {ju : Bool} (hn : n0 ≤ B) (hH : ∀ k, W.heap.size ≤ k → ¬ H k) (hHB : H B) (hN : zs.length = N) (hl : N ≤ 2000) (hi : AddInv W n0 B H v N zs root ju)
    (h6 : Below W.heap.size W W6) (hp : W6.ownsRow W.heap.size 24 2 pv' x.params.length (x.params.flatMap bsCells)) (h1 : pv'.oneCell' = true) :
    W6.cell? ⟨B, 0, none⟩ = some v ∧ (W6.alloc (.cells #[pv', .bool x.result.cell, .int .i64 x.result.n] 64)).cell? ⟨B, 0, none⟩ = some v ∧
    ∃ g cap w8, (appShut #[22, 22] 22 #[v, .slice (some ⟨W6.heap.size, 0, none⟩) 1 1]).run Tryz.prog (W6.alloc (.cells #[pv', .bool x.result.cell, .int .i64 x.result.n] 64)) = .ok (.slice (some ⟨g, 0, none⟩) (N + 1) cap) w8 ∧
      w8.cell? ⟨B, 0, none⟩ = some v ∧ w8.frozen? ⟨B, 0, none⟩ = false ∧ Hid (AddInv (w8.setCell ⟨B, 0, none⟩ (.slice (some ⟨g, 0, none⟩) (N + 1) cap)) n0 B H (.slice (some ⟨g, 0, none⟩) (N + 1) cap) (N + 1) (zs ++ [(pv', x)]) root ju) ∧
      Hid (Below n0 W (w8.setCell ⟨B, 0, none⟩ (.slice (some ⟨g, 0, none⟩) (N + 1) cap))) := by
  obtain ⟨i0, hi0, hz0, hz1, hz2⟩ := info_parts info64
  obtain ⟨b1, b2, b3, b4⟩ := hi
  have hBW : B < W.heap.size := b1.lt
  have z6 : BoxA W6 B v root ju := (h6.block _ hBW).trans b1
  have hs6 := h6.size
  obtain ⟨o, ho⟩ : ∃ o, (.cells #[pv', .bool x.result.cell, .int .i64 x.result.n] 64 : Obj) = o := ⟨_, rfl⟩
  have z7 : BoxA (W6.alloc o) B v root ju := (Below.heap_alloc _ _ _ z6.lt).trans z6
  obtain ⟨v', w8, hrun, hown', hgrow, _, hat⟩ := run_append_own_at (P := Tryz.prog) (W6.alloc o) n0 22 22 64 i0 _ 3 40 Tryz.underlying22 hi0 hz0 hz1 hz2 rfl (by decide) v N (zs.flatMap tyCells)
    ((row_below b2 h6).alloc _) ⟨W6.heap.size, 0, none⟩ 1 1 (tyCells (pv', x)) rfl (by rw [← ho]; exact cells_newE _ _ _) (by
      intro u hu
      simp only [tyCells, List.mem_cons, List.not_mem_nil, or_false] at hu
      rcases hu with rfl | rfl | rfl
      · exact h1
      · rfl
      · rfl) (by unfold maxLen; omega) (by omega) (by simp; omega)
  obtain ⟨g, cap, rfl⟩ := ownsRow_succ hown'
  have z8 : BoxA w8 B v root ju := (hgrow.block _ z7.lt (fun e => b3 B e.symm rfl)).trans z7
  have hgB : g ≠ B := by
    rcases hat with h | h
    · exact b3 g (by rw [← h]; rfl)
    · simp [Value.ownBlock] at h; omega
  have o9 : Only (fun b => b = B) w8 (w8.setCell ⟨B, 0, none⟩ (.slice (some ⟨g, 0, none⟩) (N + 1) cap)) := (Only.refl (fun k => k = B) w8).setCell _ _ fun _ => rfl
  rw [ho]
  refine ⟨cell_of_row W6 _ 0 _ 26 (0, 0) z6, cell_of_row _ _ 0 _ 26 (0, 0) z7, g, cap, w8, hrun, cell_of_row w8 _ 0 _ 26 (0, 0) z8, by simp [World.frozen?, show w8.heap[B]? = _ from z8], Lib.hid ⟨heap_setCell_same _ B 0 _ 26 _ z8, ?_, fun g' e => ?_, fun z hz g' e => ?_⟩, Lib.hid ?_⟩
  · rw [List.flatMap_append, List.flatMap_cons, List.flatMap_nil, List.append_nil]
    exact row_off hown' o9 (fun g' e => by cases e; exact hgB)
  · cases e; exact hgB
  · cases e
    cases hv : v.ownBlock with
    | none =>
      have hz0 : zs = [] := by
        rcases b2.2 with ⟨_, h0⟩ | ⟨g2, cap2, cur2, e2, _⟩
        · exact List.length_eq_zero_iff.1 (by omega)
        · rw [e2] at hv; cases hv
      subst hz0
      obtain rfl : z = (pv', x) := by simpa using hz
      rw [hv] at hat hgrow
      have hfr : g = (W6.alloc o).heap.size := by
        rcases hat with h | h
        · cases h
        · simpa [Value.ownBlock] using h
      refine (BsOff.of_own (G := B) (S := H) hp hBW hH).to ((((Only.refl _ W6).alloc o).grown hgrow (fun k e => by cases e)).setCell _ _ (fun _ => .inr hHB)) (.inr (by rw [hfr]; simp))
    | some gv =>
      rw [hv] at hat hgrow
      have hgv : gv < W.heap.size := (rowAt b2 hv).2
      have hto : g = gv ∨ W6.heap.size ≤ g := by
        rcases hat with h | h
        · left; simpa [Value.ownBlock] using h
        · right; simp [Value.ownBlock] at h; omega
      rcases List.mem_append.1 hz with hz | hz
      · exact (b4 z hz gv hv).to ((((Only.of_below h6).alloc o).grown hgrow (fun k e _ => .inl (by cases e; rfl))).setCell _ _ (fun _ => .inr hHB)) (by rcases hto with h | h; exact .inl h; exact .inr (by show W.heap.size ≤ g; omega))
      · obtain rfl : z = (pv', x) := by simpa using hz
        exact (BsOff.of_own (G := gv) (S := H) hp hgv hH).to ((((Only.refl _ W6).alloc o).grown hgrow (fun k e _ => .inl (by cases e; rfl))).setCell _ _ (fun _ => .inr hHB)) hto
  · have hn6 : n0 ≤ W.heap.size := by omega
    exact ((((h6.mono hn6).alloc (by omega) _).grown hgrow (by simp; omega) (fun k e => (rowAt b2 e).1)).setCell (p := ⟨B, 0, none⟩) hn _)
theorem addInv_later {W W' : World} {n0 B N : Nat} {H : Nat → Prop} {v : Value} {zs : List (Value × Ty)} {root : Bs} {ju : Bool} (h : AddInv W n0 B H v N zs root ju) (hb : Below W.heap.size W W') : AddInv W' n0 B H v N zs root ju :=
  ⟨(hb.block _ h.1.lt).trans h.1, row_below h.2.1 hb, h.2.2.1, fun z hz g hg => (h.2.2.2 z hz g hg).only (Only.of_below hb)⟩
theorem BsOff.of_own2 {W : World} {n G : Nat} {S : Nat → Prop} {v : Value} {l : List Bs} (h : W.ownsRow n 24 2 v l.length (l.flatMap bsCells)) (hG : v.ownBlock = none ∨ v.ownBlock ≠ some G) (hH : ∀ k, n ≤ k → k < W.heap.size → ¬ S k) : BsOff W G S v l := by
  obtain ⟨A, c, rfl, hA⟩ := bsIn_own h
  refine ⟨A, c, rfl, fun i x hx => ?_⟩
  obtain ⟨b, off, rfl, h0, h1, h2⟩ := hA i x hx
  have := rowAt h (g := b) rfl
  refine ⟨b, off, rfl, h0, ⟨fun e => ?_, hH b this.1 this.2⟩, h1, h2⟩
  rcases hG with h | h
  · cases h
  · exact h (by rw [← e]; rfl)
theorem ownTys_inv {w6 : World} {n0 n c' : Nat} {A' : Option Addr} {H : Nat → Prop} {ids : List Ty} {root : Bs} {ju : Bool} (h : OwnTys w6 n0 (.slice A' n c') ids) (hn : ids.length = n) (hH : ∀ k, n0 ≤ k → k < w6.heap.size → ¬ H k) :
    ∃ zs : List (Value × Ty), zs.map Prod.snd = ids ∧ AddInv (w6.alloc (.cells #[.slice A' n c', .bool root.cell, .int .i64 root.n, .bool ju] 26)) n0 w6.heap.size H (.slice A' n c') n zs root ju := by
  obtain ⟨zs, h1, h2, h3⟩ := h
  have hz : zs.length = n := by have := congrArg List.length h1; rw [List.length_map] at this; omega
  refine ⟨zs, h1, World.alloc_heap_new w6 _, ?_, fun g hg => by have := (rowAt h2 hg).2; omega, fun z hz g hg => ?_⟩
  · rw [← hz]; rw [← hz] at h2; exact h2.alloc _
  · exact (BsOff.of_own2 (h3 z hz).1 (by rw [← hg]; exact (h3 z hz).2) hH).only ((Only.refl _ _).alloc _)
theorem results_refAdd {tmps : Array Value} {W : World} {B : Nat} {v : Value} {root : Bs} {ju : Bool} {e : Int} (h : BoxA W B v root ju) (t4 : tmps[4]?.getD undef = .pointer (some ⟨B, 0, none⟩)) (t5 : tmps[5]?.getD undef = .int .i64 e) :
    (results Tryz.f41 tmps).run Tryz.prog W = .ok (.tuple #[arV v root ju, .int .i64 e]) W := by
  have c0 := cell_of_row W B 0 _ 26 (0, 0) h
  have c1 := cell_of_row W B 1 _ 26 (0, 0) h
  have c2 := cell_of_row W B 2 _ 26 (0, 0) h
  have c3 := cell_of_row W B 3 _ 26 (0, 0) h
  simp [results, Tryz.results41, t4, t5, go_sem, loadVar, c0, c1, c2, c3, arV]
end Go.Proofs.YtklfojmflmablaaGreatDoor
/- The reference's Add: the walk. -/
namespace Go.Proofs.YtklfojmflmablaaGreatDoor
open Go Go.RowKit Go.Shelf
attribute [local go_sem ↓] append_shut

set_option maxRecDepth 100000 in
set_option maxHeartbeats 1000000 in
theorem refAdd_any (v u : Value) (a : Ar) (l : List Ty) (w : World) (hl : a.ids.length ≤ 900) (hl2 : l.length ≤ 100) (hpl : ∀ t ∈ a.ids ++ l, t.params.length ≤ 1000) (hv : TyIn w w.heap.size v a.ids) (hu : TyIn w w.heap.size u l) :
    Calls Tryz.prog 41 #[arV v a.root a.jumps, u] w fun e w' => ∃ v', e = .returned (.tuple #[arV v' (addRes a l).1.root (addRes a l).1.jumps, .int .i64 (addRes a l).2]) ∧ TyIn w' w'.heap.size v' (addRes a l).1.ids ∧ Below w.heap.size w w' := by
  have hp1 : ∀ t ∈ a.ids, t.params.length ≤ 1000 := fun t ht => hpl t (List.mem_append_left _ ht)
  have CC : Hid (∀ W, Below w.heap.size w W → Calls Tryz.prog 25 #[arV v a.root a.jumps] W fun e w' => e = .returned (.int .i64 (checkRes a)) ∧ Below W.heap.size W w') := Lib.hid fun W hW => refCheck_any v a W (by omega) hp1 (tyIn_later hv hW)
  have CM : Hid (∀ W x, TyIn W W.heap.size x (a.ids ++ l) → Calls Tryz.prog 25 #[arV x a.root a.jumps] W fun e w' => e = .returned (.int .i64 (checkRes (moreAr a l))) ∧ Below W.heap.size W w') := Lib.hid fun W x hx => refCheck_any x (moreAr a l) W (by show (a.ids ++ l).length ≤ _; rw [List.length_append]; omega) hpl hx
  have CY : Hid (∀ W, Below w.heap.size w W → Calls Tryz.prog 19 #[arV v a.root a.jumps] W fun e w' => ∃ (A' : Option Addr) (c' : Nat), e = .returned (arV (.slice A' a.ids.length c') a.root a.jumps) ∧ OwnTys w' W.heap.size (.slice A' a.ids.length c') a.ids ∧ Below W.heap.size W w') := Lib.hid fun W hW => copyOwn_any v a W (by omega) hp1 (tyIn_later hv hW)
  have HPL := Lib.hid hpl
  have HU := Lib.hid hu
  obtain ⟨A, c, rfl⟩ := tyIn_slice hv
  obtain ⟨A2, c2, rfl, hA2⟩ := hu
  have HA2 := Lib.hid hA2
  obtain ⟨w1, hw1⟩ : ∃ w1, (w.alloc (.cells #[.slice A a.ids.length c, .bool a.root.cell, .int .i64 a.root.n, .bool a.jumps] 26)).alloc (.cells #[.slice none 0 0, .bool false, .int .i64 0, .bool false] 26) = w1 := ⟨_, rfl⟩
  have hb : Below w.heap.size w w1 := by rw [← hw1]; exact ((Below.refl _ w).alloc (Nat.le_refl _) _).alloc (by simp) _
  have x0 : BoxA w1 w.heap.size (.slice A a.ids.length c) a.root a.jumps := by rw [← hw1]; exact (Below.heap_alloc _ _ _ (by simp)).trans (World.alloc_heap_new w _)
  have x1 : BoxA w1 (w.heap.size + 1) (.slice none 0 0) ⟨false, 0⟩ false := by
    rw [← hw1]
    have := World.alloc_heap_new (w.alloc (.cells #[.slice A a.ids.length c, .bool a.root.cell, .int .i64 a.root.n, .bool a.jumps] 26)) (.cells #[.slice none 0 0, .bool false, .int .i64 0, .bool false] 26); rwa [World.size_alloc] at this
  have HB := Lib.hid hb
  have HX0 := Lib.hid x0
  have HX1 := Lib.hid x1
  obtain ⟨k0, k1, k2, k3⟩ := boxA_cells x0
  obtain ⟨r, hr⟩ : ∃ r, checkRes a = r := ⟨_, rfl⟩
  obtain ⟨s, hs⟩ : ∃ s, checkRes (moreAr a l) = s := ⟨_, rfl⟩
  obtain ⟨n, hn⟩ : ∃ n, a.ids.length = n := ⟨_, rfl⟩
  have HR : Hid (addRes a l = if r ≠ 0 then (zeroAr, r) else if s ≠ 0 then (zeroAr, s) else (moreAr a l, 0)) := Lib.hid (by unfold addRes; rw [hr, hs])
  rw [hr] at CC
  rw [hs] at CM
  rw [hn] at CC CY HX0 k0 hl hw1 ⊢
  have HN := Lib.hid hn
  unfold arV at CC CM CY ⊢
  clear hb x0 x1 hr hs hv hp1 hA2 hn
  by_cases h0 : r = 0
  · subst h0
    have hne : ((0 : Int) != 0) = false := rfl
    go_enter Tryz.func41, Tryz.ntmps41
    go_wp2_with (first
      | (go_at_call 25; refine (CC.out _ HB.out).mono ?_; rintro e w2 ⟨rfl, hb2⟩; have HB2 := Lib.hid (HB.out.trans (hb2.mono HB.out.size)); have HO2 : Hid (BoxA w2 (w.heap.size + 1) (.slice none 0 0) ⟨false, 0⟩ false) := Lib.hid (boxA_below HX1.out hb2); obtain ⟨q0, q1, q2, q3⟩ := boxA_cells (boxA_below HX0.out hb2))
      | (go_at_call 19; refine (CY.out _ HB2.out).mono ?_; rintro e w6 ⟨A', c', rfl, hown, hb6⟩))
    have hlt2 : w.heap.size + 1 < w2.heap.size := HO2.out.lt
    have HLT := Lib.hid hlt2
    obtain ⟨zs, hz, hinv⟩ := ownTys_inv (H := fun k => k = w6.heap.size ∨ k = w.heap.size + 1) (root := a.root) (ju := a.jumps) hown HN.out (fun k h1 h2 e => by rcases e with e | e <;> omega)
    have HZ0 := Lib.hid hz
    have HI0 := Lib.hid hinv
    have HB0 : Hid (Below w2.heap.size w2 (w6.alloc (.cells #[.slice A' n c', .bool a.root.cell, .int .i64 a.root.n, .bool a.jumps] 26))) := Lib.hid (hb6.alloc hb6.size _)
    have HB7 : Hid (w2.heap.size ≤ w6.heap.size) := Lib.hid hb6.size
    clear hlt2 hz hinv hown hb6 hb2 q0 q1 q2 q3 k0 k1 k2 k3
    go_loopw [8] (fun k wr => ∃ (j : Nat) (uA : Option Addr) (uc : Nat) (zs : List (Value × Ty)), k = .int .i64 (j : Int) ∧ j ≤ l.length ∧ Hid (zs.map Prod.snd = a.ids ++ l.take j) ∧ Hid (AddInv wr w2.heap.size w6.heap.size (fun k => k = w6.heap.size ∨ k = w.heap.size + 1) (.slice uA (n + j) uc) (n + j) zs a.root a.jumps) ∧ Hid (Below w2.heap.size w2 wr)) (fun k _ => l.length + 1 - (intOf k).toNat)
    case atStart => exact ⟨0, A', c', zs, rfl, Nat.zero_le _, Lib.hid (by rw [HZ0.out]; simp), HI0, HB0⟩
    case round =>
      obtain ⟨j, uA, uc, zs, rfl, hj, HZ, HI, HB9⟩ := hrel
      have HBW : Hid (Below w.heap.size w wr) := Lib.hid (HB2.out.trans (HB9.out.mono HB2.out.size))
      have HZL : Hid (zs.length = n + j) := Lib.hid (by have := congrArg List.length HZ.out; rw [List.length_map, List.length_append, HN.out, List.length_take] at this; omega)
      have HHH : Hid (∀ k, wr.heap.size ≤ k → ¬ (k = w6.heap.size ∨ k = w.heap.size + 1)) := Lib.hid (fun k hk e => by have h1 := HI.out.1.lt; have h2 := HLT.out; have h3 := HB9.out.size; omega)
      by_cases hlt : j < l.length
      · have hle : (j : Int) < (l.length : Int) := by omega
        have j0 : (0 : Int) ≤ (j : Int) := by omega
        obtain ⟨y, hy⟩ : ∃ y, l[j]? = some y := ⟨_, List.getElem?_eq_getElem hlt⟩
        obtain ⟨b, off, pv, rfl, hbn, hbs, e0, e1, e2⟩ := HA2.out j y hy
        have HW : Hid (∀ b, b < w.heap.size → wr.heap[b]? = w.heap[b]?) := Lib.hid HBW.out.block
        replace e0 := (World.cell?_of_block (HW.out b hbn)).trans e0
        replace e1 := (World.cell?_of_block (HW.out b hbn)).trans e1
        replace e2 := (World.cell?_of_block (HW.out b hbn)).trans e2
        obtain ⟨pA, pc, rfl⟩ := bsIn_slice hbs
        have hyl : y.params.length ≤ 1000 := HPL.out y (List.mem_append_right _ (List.mem_of_getElem? hy))
        have C66 : Hid (∀ W, Below wr.heap.size wr W → Calls Tryz.prog 66 #[tyV (.slice pA y.params.length pc) y.result] W fun e w' => ∃ A' c', e = .returned (tyV (.slice A' y.params.length c') y.result) ∧ w'.ownsRow W.heap.size 24 2 (.slice A' y.params.length c') y.params.length (y.params.flatMap bsCells) ∧ Below W.heap.size W w') := Lib.hid fun W hW => by
          exact copyType_any _ y W hyl (bsIn_later hbs (HBW.out.trans (hW.mono HBW.out.size)))
        have HY := Lib.hid hy
        unfold tyV at C66
        have d0 := cell_of_row wr _ 0 _ 26 (0, 0) HI.out.1
        have hjl : n + j ≤ 2000 := by omega
        have HCA : Hid (∀ W6 A' c', Below wr.heap.size wr W6 → W6.ownsRow wr.heap.size 24 2 (.slice A' y.params.length c') y.params.length (y.params.flatMap bsCells) → _) := Lib.hid fun W6 A' c' h6 hp6 => addInv_more (x := y) HB7.out HHH.out (.inl rfl) HZL.out hjl HI.out h6 hp6 rfl
        clear hy hbs hyl hjl
        go_wp2_with fail
        go_region_with (go_at_call 66; refine (C66.out _ ((Below.refl _ wr).drew)).mono ?_; rintro e W6 ⟨A', c', rfl, hp6, hb6⟩; obtain ⟨k1, k2, g', cap', w8, hrun, k3, k4, HST, HB8⟩ := HCA.out W6 A' c' (((Below.refl _ wr).drew).trans hb6) hp6)
        all_goals go_wp2
        all_goals refine ⟨⟨j + 1, _, _, _, by simp, by omega, Lib.hid ?_, HST, Lib.hid (HB9.out.trans HB8.out)⟩, by simp [intOf]; omega⟩
        all_goals rw [List.map_append, HZ.out, take_snoc HY.out, List.append_assoc]
        all_goals rfl
      · obtain rfl : j = l.length := by omega
        have HZ9 : Hid (zs.map Prod.snd = a.ids ++ l) := Lib.hid (by rw [HZ.out, List.take_length])
        have CX := Lib.hid (CM.out wr _ (addInv_tyIn (S := fun _ => False) HI.out HZL.out HZ9.out (Only.refl _ _) (fun _ h => h.elim)))
        obtain ⟨k0, k1, k2, k3⟩ := boxA_cells HI.out.1
        obtain ⟨M, hM⟩ : ∃ M, n + l.length = M := ⟨_, rfl⟩
        rw [hM] at CX k0 HI HZL
        clear hM
        by_cases hs0 : s = 0
        · subst hs0
          have HM := Lib.hid (show addRes a l = (moreAr a l, 0) by rw [HR.out, if_neg (by simp), if_neg (by simp)])
          have hnlt : ¬ ((l.length : Int) < (l.length : Int)) := by omega
          go_wp2_with (go_at_call 25; refine CX.out.mono ?_; rintro e w8 ⟨rfl, hb8⟩; have HI8 := Lib.hid (addInv_later HI.out hb8); obtain ⟨m0, m1, m2, m3⟩ := boxA_cells HI8.out.1; have HB8 : Hid (Below w2.heap.size w2 w8) := Lib.hid (HB9.out.trans (hb8.mono HB9.out.size)); obtain ⟨x1, x2, x3, x4, e1, e2, e3, e4, s0, f0, s1, f1, s2, f2, s3, f3, hx4, ho⟩ := chain26 ((HB8.out.block _ HO2.out.lt).trans HO2.out) (.slice uA M uc) a.root a.jumps)
          refine bodyPost_ret (results_refAdd hx4 rfl rfl) rfl ?_
          rw [HM.out]
          have hbx : Below (w.heap.size + 1) w8 x4 := ho.below _ (by have h1 := HLT.out; have h2 := HB8.out.size; omega) (fun b hb h => by omega)
          refine ⟨_, rfl, ?_, (HB2.out.trans (HB8.out.mono HB2.out.size)).trans (hbx.mono (by omega))⟩
          exact addInv_tyIn HI8.out HZL.out HZ9.out ho (fun k hk => ⟨.inr hk, fun g hg e => by have h1 := (rowAt HI8.out.2.1 hg).1; have h2 := HLT.out; omega⟩)
        · have HM := Lib.hid (show addRes a l = (zeroAr, s) by rw [HR.out, if_neg (by simp), if_pos hs0])
          have hne2 : (s != 0) = true := by simpa using hs0
          have hnlt : ¬ ((l.length : Int) < (l.length : Int)) := by omega
          clear hs0
          go_wp2_with (go_at_call 25; refine CX.out.mono ?_; rintro e w8 ⟨rfl, hb8⟩; have HB8 : Hid (Below w2.heap.size w2 w8) := Lib.hid (HB9.out.trans (hb8.mono HB9.out.size)); obtain ⟨x1, x2, x3, x4, e1, e2, e3, e4, s0, f0, s1, f1, s2, f2, s3, f3, hx4, ho⟩ := chain26 ((HB8.out.block _ HO2.out.lt).trans HO2.out) (.slice none 0 0) ⟨false, 0⟩ false)
          refine bodyPost_ret (results_refAdd hx4 rfl rfl) rfl ?_
          rw [HM.out]
          exact ⟨_, rfl, ⟨none, 0, rfl, fun i x hx => by simp [zeroAr] at hx⟩, (HB2.out.trans (HB8.out.mono HB2.out.size)).trans (ho.below _ (by have h1 := HLT.out; have h2 := HB8.out.size; omega) (fun b hb h => by omega))⟩
  · have HM := Lib.hid (show addRes a l = (zeroAr, r) by rw [HR.out, if_pos h0])
    have hne : (r != 0) = true := by simpa using h0
    clear CM h0
    go_enter Tryz.func41, Tryz.ntmps41
    go_wp2_with (go_at_call 25; refine (CC.out _ HB.out).mono ?_; rintro e w2 ⟨rfl, hb2⟩; obtain ⟨x1, x2, x3, x4, e1, e2, e3, e4, s0, f0, s1, f1, s2, f2, s3, f3, hx4, ho⟩ := chain26 (boxA_below HX1.out hb2) (.slice none 0 0) ⟨false, 0⟩ false)
    refine bodyPost_ret (results_refAdd hx4 rfl rfl) rfl ?_
    rw [HM.out]
    exact ⟨_, rfl, ⟨none, 0, rfl, fun i x hx => by simp [zeroAr] at hx⟩, HB.out.trans ((hb2.mono HB.out.size).trans (ho.below _ (Nat.le_trans HB.out.size hb2.size) (fun b hb h => by omega)))⟩
end Go.Proofs.YtklfojmflmablaaGreatDoor
/- ArenaAdds. -/
namespace Go.Proofs.YtklfojmflmablaaGreatDoor
open Go Go.RowKit Go.Shelf

set_option maxRecDepth 100000 in
set_option maxHeartbeats 1000000 in
theorem law6_thick (v u : Value) (a : Ar) (l : List Ty) (w : World) (h : Laid w) (hv : TyIn w w.heap.size v a.ids) (hu : TyIn w w.heap.size u l) (hth : thinB a = false ∨ thinB ⟨l, ⟨false, 0⟩, false⟩ = false) :
    Calls Tryz.prog 6 #[arV v a.root a.jumps, u] w fun e w' => e = .returned (.bool true) ∧ Below w.heap.size w w' := by
  have CT : Hid (∀ W, Below w.heap.size w W → Calls Tryz.prog 17 #[arV v a.root a.jumps] W fun e w' => e = .returned (.bool (thinB a)) ∧ Below W.heap.size W w') := Lib.hid fun W hW => thin_any v a W (tyIn_later hv hW)
  have CU : Hid (∀ W, Below w.heap.size w W → Calls Tryz.prog 17 #[arV u ⟨false, 0⟩ false] W fun e w' => e = .returned (.bool (thinB ⟨l, ⟨false, 0⟩, false⟩)) ∧ Below W.heap.size W w') := Lib.hid fun W hW => thin_any u ⟨l, ⟨false, 0⟩, false⟩ W (tyIn_later hu hW)
  have HLD := Lib.hid h
  obtain ⟨A, c, rfl⟩ := tyIn_slice hv
  obtain ⟨A2, c2, rfl⟩ := tyIn_slice hu
  obtain ⟨n, hn⟩ : ∃ n, a.ids.length = n := ⟨_, rfl⟩
  rw [hn] at CT ⊢
  obtain ⟨w1, hw1⟩ : ∃ w1, w.alloc (.cells #[.slice A n c, .bool a.root.cell, .int .i64 a.root.n, .bool a.jumps] 26) = w1 := ⟨_, rfl⟩
  have hb : Below w.heap.size w w1 := by rw [← hw1]; exact (Below.refl _ w).alloc (Nat.le_refl _) _
  have x0 : BoxA w1 w.heap.size (.slice A n c) a.root a.jumps := by rw [← hw1]; exact World.alloc_heap_new w _
  have HB := Lib.hid hb
  obtain ⟨k0, k1, k2, k3⟩ := boxA_cells x0
  obtain ⟨s, hs⟩ : ∃ s, thinB ⟨l, ⟨false, 0⟩, false⟩ = s := ⟨_, rfl⟩
  obtain ⟨r, hr⟩ : ∃ r, thinB a = r := ⟨_, rfl⟩
  rw [hs] at CU hth
  rw [hr] at CT hth
  unfold arV at CT CU ⊢
  clear hb x0 hv hu hn h hs hr
  cases r with
  | false =>
    clear CU hth
    go_enter Tryz.func6, Tryz.ntmps6
    go_wp2_with (first
      | (go_at_call 17; refine (CT.out _ HB.out).mono ?_; rintro e w2 ⟨rfl, hb2⟩)
      | (go_at_call 18; refine (awake_any _ (HLD.out.later (HB.out.trans (hb2.mono HB.out.size)))).mono ?_; rintro e w3 ⟨rfl, hb3⟩))
    go_ret
    exact ⟨rfl, HB.out.trans ((hb2.mono HB.out.size).trans (hb3.mono (Nat.le_trans HB.out.size hb2.size)))⟩
  | true =>
    obtain rfl : s = false := by rcases hth with h | h; cases h; exact h
    clear hth
    go_enter Tryz.func6, Tryz.ntmps6
    go_wp2_with (first
      | (go_at_call 17; first
        | ((with_reducible refine (CT.out w1 HB.out).mono ?_); rintro e w2 ⟨rfl, hb2⟩; have HB2 := Lib.hid (HB.out.trans (hb2.mono HB.out.size)))
        | ((with_reducible refine (CU.out w2 HB2.out).mono ?_); rintro e w4 ⟨rfl, hb4⟩; have HB4 := Lib.hid (HB2.out.trans (hb4.mono HB2.out.size))))
      | (go_at_call 18; refine (awake_any _ (HLD.out.later HB4.out)).mono ?_; rintro e w3 ⟨rfl, hb3⟩))
    go_ret
    exact ⟨rfl, HB4.out.trans (hb3.mono HB4.out.size)⟩

set_option maxRecDepth 100000 in
set_option maxHeartbeats 4000000 in
theorem law6_thin (v u : Value) (a : Ar) (l : List Ty) (w : World) (h : Laid w) (hv : TyIn w w.heap.size v a.ids) (hu : TyIn w w.heap.size u l) (hta : thinB a = true) (htl : thinB ⟨l, ⟨false, 0⟩, false⟩ = true) :
    Calls Tryz.prog 6 #[arV v a.root a.jumps, u] w fun e w' => e = .returned (.bool true) ∧ Below w.heap.size w w' := by
  obtain ⟨ha12, ha8⟩ := thin_len hta
  obtain ⟨hl12, hl8⟩ := thin_len htl
  dsimp only at hl12 hl8
  have hp8 : ∀ t ∈ a.ids ++ l, t.params.length ≤ 8 := fun t ht => by rcases List.mem_append.1 ht with ht | ht; exact ha8 t ht; exact hl8 t ht
  have CT : Hid (∀ W, Below w.heap.size w W → Calls Tryz.prog 17 #[arV v a.root a.jumps] W fun e w' => e = .returned (.bool true) ∧ Below W.heap.size W w') := Lib.hid fun W hW => by have := thin_any v a W (tyIn_later hv hW); rwa [hta] at this
  have CU : Hid (∀ W, Below w.heap.size w W → Calls Tryz.prog 17 #[arV u ⟨false, 0⟩ false] W fun e w' => e = .returned (.bool true) ∧ Below W.heap.size W w') := Lib.hid fun W hW => by have := thin_any u ⟨l, ⟨false, 0⟩, false⟩ W (tyIn_later hu hW); rwa [htl] at this
  have CA : Hid (∀ W, Below w.heap.size w W → Calls Tryz.prog 19 #[arV v a.root a.jumps] W fun e w' => ∃ A' c', e = .returned (arV (.slice A' a.ids.length c') a.root a.jumps) ∧ Hid (TyIn w' w'.heap.size (.slice A' a.ids.length c') a.ids) ∧ Below W.heap.size W w') := Lib.hid fun W hW => by
    refine (copy_any v a W (by omega) (fun t ht => by have := ha8 t ht; omega) (tyIn_later hv hW)).mono ?_
    rintro e w' ⟨v', rfl, ht, hb⟩
    obtain ⟨A', c', rfl⟩ := tyIn_slice ht
    exact ⟨A', c', rfl, Lib.hid ht, hb⟩
  have CL : Hid (∀ W, Below w.heap.size w W → Calls Tryz.prog 19 #[arV u ⟨false, 0⟩ false] W fun e w' => ∃ A' c', e = .returned (arV (.slice A' l.length c') ⟨false, 0⟩ false) ∧ Hid (TyIn w' w'.heap.size (.slice A' l.length c') l) ∧ Below W.heap.size W w') := Lib.hid fun W hW => by
    refine (copy_any u ⟨l, ⟨false, 0⟩, false⟩ W (by show l.length ≤ _; omega) (fun t ht => by have := hl8 t ht; omega) (tyIn_later hu hW)).mono ?_
    rintro e w' ⟨v', rfl, ht, hb⟩
    obtain ⟨A', c', rfl⟩ := tyIn_slice ht
    exact ⟨A', c', rfl, Lib.hid ht, hb⟩
  obtain ⟨⟨⟨rids, rroot, rj⟩, re⟩, hR⟩ : ∃ R, addRes a l = R := ⟨_, rfl⟩
  have hrl : rids.length ≤ 24 ∧ ∀ t ∈ rids, t.params.length ≤ 8 := by
    unfold addRes at hR
    split at hR
    · cases hR; exact ⟨by simp, fun t ht => by cases ht⟩
    · split at hR
      · cases hR; exact ⟨by simp, fun t ht => by cases ht⟩
      · cases hR; exact ⟨by rw [List.length_append]; omega, hp8⟩
  have C40 : Hid (∀ W x y, TyIn W W.heap.size x a.ids → TyIn W W.heap.size y l → Calls Tryz.prog 40 #[arV x a.root a.jumps, y] W fun e w' => ∃ A' c', e = .returned (.tuple #[arV (.slice A' rids.length c') rroot rj, .int .i64 re]) ∧ Hid (TyIn w' w'.heap.size (.slice A' rids.length c') rids) ∧ Below W.heap.size W w') := Lib.hid fun W x y hx hy => by
    refine (arAdd_any x y a l W (by omega) (by omega) (fun t ht => by have := hp8 t ht; omega) hx hy).mono ?_
    rintro e w' ⟨v', rfl, ht, hb⟩
    rw [hR] at ht ⊢
    obtain ⟨A', c', rfl⟩ := tyIn_slice ht
    exact ⟨A', c', rfl, Lib.hid ht, hb⟩
  have C41 : Hid (∀ W, Below w.heap.size w W → Calls Tryz.prog 41 #[arV v a.root a.jumps, u] W fun e w' => ∃ A' c', e = .returned (.tuple #[arV (.slice A' rids.length c') rroot rj, .int .i64 re]) ∧ Hid (TyIn w' w'.heap.size (.slice A' rids.length c') rids) ∧ Below W.heap.size W w') := Lib.hid fun W hW => by
    refine (refAdd_any v u a l W (by omega) (by omega) (fun t ht => by have := hp8 t ht; omega) (tyIn_later hv hW) (tyIn_later hu hW)).mono ?_
    rintro e w' ⟨v', rfl, ht, hb⟩
    rw [hR] at ht ⊢
    obtain ⟨A', c', rfl⟩ := tyIn_slice ht
    exact ⟨A', c', rfl, Lib.hid ht, hb⟩
  have S1 : Hid (∀ W x y, TyIn W W.heap.size x rids → TyIn W W.heap.size y rids → Calls Tryz.prog 27 #[arV x rroot rj, arV y rroot rj] W fun e w' => e = .returned (.bool true) ∧ Below W.heap.size W w') := Lib.hid fun W x y hx hy => same_any x y ⟨rids, rroot, rj⟩ W (by show rids.length ≤ _; omega) (fun t ht => by have := hrl.2 t ht; omega) hx hy
  have S2 : Hid (∀ W y, Below w.heap.size w W → TyIn W W.heap.size y a.ids → Calls Tryz.prog 27 #[arV v a.root a.jumps, arV y a.root a.jumps] W fun e w' => e = .returned (.bool true) ∧ Below W.heap.size W w') := Lib.hid fun W y hW hy => same_any v y a W (by omega) (fun t ht => by have := ha8 t ht; omega) (tyIn_later hv hW) hy
  have S3 : Hid (∀ W y, Below w.heap.size w W → TyIn W W.heap.size y l → Calls Tryz.prog 27 #[arV y ⟨false, 0⟩ false, arV u ⟨false, 0⟩ false] W fun e w' => e = .returned (.bool true) ∧ Below W.heap.size W w') := Lib.hid fun W y hW hy => same_any y u ⟨l, ⟨false, 0⟩, false⟩ W (by show l.length ≤ _; omega) (fun t ht => by have := hl8 t ht; omega) hy (tyIn_later hu hW)
  have HLD := Lib.hid h
  obtain ⟨A, c, rfl⟩ := tyIn_slice hv
  obtain ⟨A2, c2, rfl⟩ := tyIn_slice hu
  obtain ⟨n, hn⟩ : ∃ n, a.ids.length = n := ⟨_, rfl⟩
  obtain ⟨m, hm⟩ : ∃ m, l.length = m := ⟨_, rfl⟩
  obtain ⟨k, hk⟩ : ∃ k, rids.length = k := ⟨_, rfl⟩
  rw [hn] at CT CA C41 S2 ⊢
  rw [hm] at CU CL C41 S3 ⊢
  rw [hk] at C40 C41
  obtain ⟨w1, hw1⟩ : ∃ w1, w.alloc (.cells #[.slice A n c, .bool a.root.cell, .int .i64 a.root.n, .bool a.jumps] 26) = w1 := ⟨_, rfl⟩
  have hb : Below w.heap.size w w1 := by rw [← hw1]; exact (Below.refl _ w).alloc (Nat.le_refl _) _
  have x0 : BoxA w1 w.heap.size (.slice A n c) a.root a.jumps := by rw [← hw1]; exact World.alloc_heap_new w _
  have HB := Lib.hid hb
  have HX0 := Lib.hid x0
  obtain ⟨k0, k1, k2, k3⟩ := boxA_cells x0
  unfold arV at CT CU CA CL C40 C41 S1 S2 S3 ⊢
  clear hb x0 hv hu hn hm hk h hta htl hp8 ha12 ha8 hl12 hl8 hR hrl
  go_enter Tryz.func6, Tryz.ntmps6
  go_wp2_with (first
    | (go_at_call 17; first
      | ((with_reducible refine (CT.out w1 HB.out).mono ?_); rintro e w2 ⟨rfl, hb2⟩; have HB2 := Lib.hid (HB.out.trans (hb2.mono HB.out.size)); have HX2 := Lib.hid (boxA_below HX0.out hb2))
      | ((with_reducible refine (CU.out w2 HB2.out).mono ?_); rintro e w3 ⟨rfl, hb3⟩; have HB3 := Lib.hid (HB2.out.trans (hb3.mono HB2.out.size)); have HX3 := Lib.hid (boxA_below HX2.out hb3); obtain ⟨q0, q1, q2, q3⟩ := boxA_cells HX3.out))
    | (go_at_call 19; first
      | ((with_reducible refine (CA.out w3 HB3.out).mono ?_); rintro e w4 ⟨A4, c4, rfl, ht4, hb4⟩; have HB4 := Lib.hid (HB3.out.trans (hb4.mono HB3.out.size)); have HX4 := Lib.hid (boxA_below HX3.out hb4))
      | ((with_reducible refine (CL.out w4 HB4.out).mono ?_); go_loud (rintro e w5 ⟨A5, c5, rfl, ht5, hb5⟩; have HB5 := Lib.hid (HB4.out.trans (hb5.mono HB4.out.size)); have HX5 := Lib.hid (boxA_below HX4.out hb5); have HT4 := Lib.hid (tyIn_later ht4.out hb5); have h5y : Below w5.heap.size w5 ((w5.alloc (.cells #[.slice A4 n c4, .bool a.root.cell, .int .i64 a.root.n, .bool a.jumps] 26)).alloc (.cells #[.slice A5 m c5, .bool false, .int .i64 0, .bool false] 26)) := ((((Below.refl _ w5).alloc (Nat.le_refl _) _).alloc (by simp) _)); have HBy : Hid (Below w.heap.size w ((w5.alloc (.cells #[.slice A4 n c4, .bool a.root.cell, .int .i64 a.root.n, .bool a.jumps] 26)).alloc (.cells #[.slice A5 m c5, .bool false, .int .i64 0, .bool false] 26))) := Lib.hid (HB5.out.trans (h5y.mono HB5.out.size)); have HXy := Lib.hid (boxA_below HX5.out h5y); have HT4y := Lib.hid (tyIn_later HT4.out h5y); have HT5y := Lib.hid (tyIn_later ht5.out h5y); have HP : Hid (BoxA ((w5.alloc (.cells #[.slice A4 n c4, .bool a.root.cell, .int .i64 a.root.n, .bool a.jumps] 26)).alloc (.cells #[.slice A5 m c5, .bool false, .int .i64 0, .bool false] 26)) w5.heap.size (.slice A4 n c4) a.root a.jumps) := Lib.hid ((Below.heap_alloc _ _ _ (by simp)).trans (World.alloc_heap_new w5 _)); have HQ : Hid (BoxA ((w5.alloc (.cells #[.slice A4 n c4, .bool a.root.cell, .int .i64 a.root.n, .bool a.jumps] 26)).alloc (.cells #[.slice A5 m c5, .bool false, .int .i64 0, .bool false] 26)) (w5.heap.size + 1) (.slice A5 m c5) ⟨false, 0⟩ false) := Lib.hid ((by have := World.alloc_heap_new (w5.alloc (.cells #[.slice A4 n c4, .bool a.root.cell, .int .i64 a.root.n, .bool a.jumps] 26)) (.cells #[.slice A5 m c5, .bool false, .int .i64 0, .bool false] 26); rwa [World.size_alloc] at this)); obtain ⟨a0, a1, a2, a3⟩ := boxA_cells HP.out; obtain ⟨d0, d1, d2, d3⟩ := boxA_cells HQ.out; clear h5y)))
    | (go_at_call 40; go_loud (refine (C40.out _ _ _ HT4y.out HT5y.out).mono ?_; rintro e w6 ⟨A6, c6, rfl, ht6, hb6⟩; obtain ⟨z6, hz6⟩ : ∃ z6, w6.alloc (.cells #[.slice A6 k c6, .bool rroot.cell, .int .i64 rroot.n, .bool rj] 26) = z6 := ⟨_, rfl⟩; have h6z : Below ((w5.alloc (.cells #[.slice A4 n c4, .bool a.root.cell, .int .i64 a.root.n, .bool a.jumps] 26)).alloc (.cells #[.slice A5 m c5, .bool false, .int .i64 0, .bool false] 26)).heap.size ((w5.alloc (.cells #[.slice A4 n c4, .bool a.root.cell, .int .i64 a.root.n, .bool a.jumps] 26)).alloc (.cells #[.slice A5 m c5, .bool false, .int .i64 0, .bool false] 26)) z6 := hb6.trans ((hz6 ▸ ((Below.refl _ w6).alloc (Nat.le_refl _) _ : Below w6.heap.size w6 _)).mono hb6.size); have HBz : Hid (Below w.heap.size w z6) := Lib.hid (HBy.out.trans (h6z.mono HBy.out.size)); have HXz := Lib.hid (boxA_below HXy.out h6z); have HPz := Lib.hid (boxA_below HP.out h6z); have HQz := Lib.hid (boxA_below HQ.out h6z); have HT4z := Lib.hid (tyIn_later HT4y.out h6z); have HT5z := Lib.hid (tyIn_later HT5y.out h6z); have HT6z : Hid (TyIn z6 z6.heap.size (.slice A6 k c6) rids) := Lib.hid (tyIn_later ht6.out (hz6 ▸ ((Below.refl _ w6).alloc (Nat.le_refl _) _))); have HF : Hid (BoxA z6 w6.heap.size (.slice A6 k c6) rroot rj) := Lib.hid (hz6 ▸ World.alloc_heap_new w6 _); obtain ⟨b0, b1, b2, b3⟩ := boxA_cells HXz.out; clear h6z))
    | (go_at_call 41; go_loud (refine (C41.out _ HBz.out).mono ?_; rintro e w7 ⟨A7, c7, rfl, ht7, hb7⟩; obtain ⟨z7, hz7⟩ : ∃ z7, w7.alloc (.cells #[.slice A7 k c7, .bool rroot.cell, .int .i64 rroot.n, .bool rj] 26) = z7 := ⟨_, rfl⟩; have h7z : Below z6.heap.size z6 z7 := hb7.trans ((hz7 ▸ ((Below.refl _ w7).alloc (Nat.le_refl _) _ : Below w7.heap.size w7 _)).mono hb7.size); have HBq : Hid (Below w.heap.size w z7) := Lib.hid (HBz.out.trans (h7z.mono HBz.out.size)); have HXq := Lib.hid (boxA_below HXz.out h7z); have HPq := Lib.hid (boxA_below HPz.out h7z); have HQq := Lib.hid (boxA_below HQz.out h7z); have HFq := Lib.hid (boxA_below HF.out h7z); have HT4q := Lib.hid (tyIn_later HT4z.out h7z); have HT5q := Lib.hid (tyIn_later HT5z.out h7z); have HT6q := Lib.hid (tyIn_later HT6z.out h7z); have HT7q : Hid (TyIn z7 z7.heap.size (.slice A7 k c7) rids) := Lib.hid (tyIn_later ht7.out (hz7 ▸ ((Below.refl _ w7).alloc (Nat.le_refl _) _))); have HGq : Hid (BoxA z7 w7.heap.size (.slice A7 k c7) rroot rj) := Lib.hid (hz7 ▸ World.alloc_heap_new w7 _); obtain ⟨i0, i1, i2, i3⟩ := boxA_cells HFq.out; obtain ⟨j0, j1, j2, j3⟩ := boxA_cells HGq.out; clear h7z))
    | (go_at_call 27; first
      | ((with_reducible refine (S1.out z7 _ _ HT6q.out HT7q.out).mono ?_); go_loud (rintro e w8 ⟨rfl, hb8⟩; have HB8 : Hid (Below w.heap.size w w8) := Lib.hid (HBq.out.trans (hb8.mono HBq.out.size)); have H78 := Lib.hid hb8; obtain ⟨l0, l1, l2, l3⟩ := boxA_cells (boxA_below HXq.out hb8); obtain ⟨o0, o1, o2, o3⟩ := boxA_cells (boxA_below HPq.out hb8)))
      | ((with_reducible refine (S2.out w8 _ HB8.out (tyIn_later HT4q.out H78.out)).mono ?_); go_loud (rintro e w9 ⟨rfl, hb9⟩; have HB9 : Hid (Below w.heap.size w w9) := Lib.hid (HB8.out.trans (hb9.mono HB8.out.size)); have H79 : Hid (Below z7.heap.size z7 w9) := Lib.hid (H78.out.trans (hb9.mono H78.out.size)); obtain ⟨p0, p1, p2, p3⟩ := boxA_cells (boxA_below HQq.out H79.out)))
      | ((with_reducible refine (S3.out w9 _ HB9.out (tyIn_later HT5q.out H79.out)).mono ?_); go_loud (rintro e w10 ⟨rfl, hb10⟩; have HB10 : Hid (Below w.heap.size w w10) := Lib.hid (HB9.out.trans (hb10.mono HB9.out.size)))))
    | (go_at_call 18; refine (awake_any _ (HLD.out.later HB10.out)).mono ?_; rintro e w11 ⟨rfl, hb11⟩))
  go_ret
  exact ⟨rfl, HB10.out.trans (hb11.mono HB10.out.size)⟩

theorem law6_any (v u : Value) (a : Ar) (l : List Ty) (w : World) (h : Laid w) (hv : TyIn w w.heap.size v a.ids) (hu : TyIn w w.heap.size u l) :
    Calls Tryz.prog 6 #[arV v a.root a.jumps, u] w fun e w' => e = .returned (.bool true) ∧ Below w.heap.size w w' := by
  cases h1 : thinB a with
  | false => exact law6_thick v u a l w h hv hu (.inl h1)
  | true =>
    cases h2 : thinB ⟨l, ⟨false, 0⟩, false⟩ with
    | false => exact law6_thick v u a l w h hv hu (.inr h2)
    | true => exact law6_thin v u a l w h hv hu h1 h2
end Go.Proofs.YtklfojmflmablaaGreatDoor
