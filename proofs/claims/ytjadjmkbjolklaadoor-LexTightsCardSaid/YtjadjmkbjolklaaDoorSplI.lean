/- The contract of LexSplices. -/
import Derived.Test.YtjadjmkbjolklaaDoorSplG
import Derived.Test.YtjadjmkbjolklaaDoorSplH
import Derived.Test.YtjadjmkbjolklaaDoorAwakeB
import Derived.Test.YtjadjmkbjolklaaDoorRefE
import Derived.Laws.AppendOwnNone
namespace Go.Proofs.YtjadjmkbjolklaaDoor
open Go.RowKit

theorem spl_refl (l : List Spl) : sameS l l = true := (sameS_iff l l).2 rfl

theorem splCells_length : ∀ l : List Spl, (splCells l).length = l.length * 3
  | [] => rfl
  | y :: r => by
    show (y.cells3 ++ splCells r).length = _
    rw [List.length_append, splCells_length r, List.length_cons]
    show 3 + _ = _
    omega

theorem splCells_one (l : List Spl) : ∀ u ∈ splCells l, u.oneCell' = true := by
  intro u hu
  obtain ⟨x, _, hx⟩ := List.mem_flatMap.1 hu
  simp only [Spl.cells3, List.mem_cons, List.not_mem_nil, or_false] at hx
  rcases hx with rfl | rfl | rfl <;> rfl

/-- The cells of splices, as a slice holds them. -/
theorem splIn_cells {W : World} {B : Nat} {ad : Addr} {n c : Nat} {l : List Spl} (h : SplIn W B (.slice (some ad) n c) l) : ∀ j u, (splCells l)[j]? = some u → W.cell? (ad.add j) = some u := by
  obtain ⟨A', c', hv, hA⟩ := h
  cases hv
  intro j u hj
  have hlen := splCells_length l
  have hj3 : j < l.length * 3 := by rw [← hlen]; exact (List.getElem?_eq_some_iff.1 hj).1
  have hi : l[j / 3]? = some (l[j / 3]'(by omega)) := List.getElem?_eq_getElem _
  have hg := cells_get Spl.cells3 3 (fun _ => rfl) l (j / 3) _ hi
  obtain ⟨b, off, e, _, g0, g1, g2⟩ := hA (j / 3) _ hi
  cases e
  have e : Addr.add ⟨b, off, none⟩ j = ⟨b, off + j, none⟩ := by unfold Addr.add; split <;> simp_all
  rw [e]
  have hjj : j = j / 3 * 3 + j % 3 := by omega
  have h3 : j % 3 = 0 ∨ j % 3 = 1 ∨ j % 3 = 2 := by omega
  rcases h3 with h3 | h3 | h3
  · have := hg 0 _ rfl
    rw [h3, Nat.add_zero] at hjj
    rw [Nat.add_zero, ← hjj] at this
    change (splCells l)[j]? = _ at this
    rw [this] at hj
    cases hj
    rw [← hjj] at g0
    exact g0
  · have := hg 1 _ rfl
    rw [h3] at hjj
    rw [← hjj] at this
    change (splCells l)[j]? = _ at this
    rw [this] at hj
    cases hj
    rw [Nat.add_assoc, ← hjj] at g1
    exact g1
  · have := hg 2 _ rfl
    rw [h3] at hjj
    rw [← hjj] at this
    change (splCells l)[j]? = _ at this
    rw [this] at hj
    cases hj
    rw [Nat.add_assoc, ← hjj] at g2
    exact g2

theorem splIn_own0 {W : World} {n₀ : Nat} {v : Value} {l : List Spl} (h : W.ownsRow n₀ 56 3 v (0 + l.length) ([] ++ splCells l)) : SplIn W W.heap.size v l := by
  rw [Nat.zero_add, List.nil_append] at h
  exact splIn_of_own h

theorem splIn_none {W : World} {B n c : Nat} {l : List Spl} (h : SplIn W B (.slice none n c) l) : l = [] := by
  obtain ⟨A, c', hv, hA⟩ := h
  cases hv
  cases l with
  | nil => rfl
  | cons x r =>
    obtain ⟨b, off, e, _⟩ := hA 0 x rfl
    cases e

theorem undoRes_len (s : ByteArray) (l : List Spl) : (undoRes s l).1.length ≤ l.length := by
  unfold undoRes
  split
  · simp
  · rw [back_length]
    exact Nat.le_refl _

set_option maxRecDepth 100000 in
set_option maxHeartbeats 2000000 in
theorem splices_any (s : ByteArray) (v : Value) (l : List Spl) (at_ : Int) (w : World) (hs : s.size ≤ 140737488355328) (hl : l.length * 32 ≤ 140737488355328) (ht : ∀ x ∈ l, x.text.size ≤ 140737488355328) (hc0 : v = .slice none 0 0 ∨ ∃ ad n c, v = .slice (some ad) n c) (hv : SplIn w w.heap.size v l) (hn : NumVars w) :
    Calls Tryd.prog 6 #[.string s, v, .int .i64 at_] w fun e w' => e = .returned (.bool true) ∧ Below w.heap.size w w' := by
  have HN := Lib.hid hn
  have HV := Lib.hid hv
  have hl1 : l.length ≤ 140737488355328 := by omega
  clear hn
  by_cases h30 : 3000 < s.size
  · obtain ⟨A, c, rfl, _⟩ := hv
    clear ht
    go_enter Tryd.func6, Tryd.ntmps6
    go_wp2_with (go_at_call 17; refine (awake_any _ HN.out).mono ?_; rintro e w1 ⟨rfl, hb1⟩)
    go_ret
    exact ⟨rfl, hb1⟩
  · have C33 := Lib.hid (fun w (h : SplIn w w.heap.size v l) => few_any v l w hl1 ht h)
    have C34 := Lib.hid (fun w v (h : SplIn w w.heap.size v l) => apply_any s v l w hs hl1 ht h)
    have C35 := Lib.hid (fun w (h : SplIn w w.heap.size v l) => refApply_any s v l w hs hl1 ht h)
    have C36 := Lib.hid (fun w v (h : SplIn w w.heap.size v l) => moved_any s v l at_ w hs hl1 ht h)
    have C37 := Lib.hid (fun w (h : SplIn w w.heap.size v l) => refMoved_any s v l at_ w hs hl1 ht h)
    have C38 := Lib.hid (fun w v (h : SplIn w w.heap.size v l) => undo_any s v l w hs hl1 ht h)
    have C39 := Lib.hid (fun w (h : SplIn w w.heap.size v l) => refUndo_any s v l w hs hl1 ht h)
    have hul := undoRes_len s l
    generalize (applyRes s l).1.toArray = a1 at C34 C35
    generalize (applyRes s l).2 = e1 at C34 C35
    generalize (movedRes s l at_).1 = m1 at C36 C37
    generalize (movedRes s l at_).2 = e2 at C36 C37
    generalize (undoRes s l).1 = ul at C38 C39 hul
    generalize (undoRes s l).2 = e3 at C38 C39
    have HUL : Hid (ul.length ≤ 140737488355328) := Lib.hid (by omega)
    clear hul ht
    have HB0 := Lib.hid (Below.refl w.heap.size w)
    obtain ⟨i0, hi, hz0, hz1, hz2⟩ := info_parts info56
    rcases hc0 with rfl | ⟨ad, n', c', rfl⟩
    · go_enter Tryd.func6, Tryd.ntmps6
      go_wp2_with (first
        | (go_at_call 33; refine (C33.out _ HV.out).mono ?_; rintro e w' ⟨b, rfl, rfl⟩; cases b)
        | (go_at_call 34; refine (C34.out _ _ ((HV.out.below HB0.out).more HB0.out.size)).mono ?_; rintro e w2 ⟨rfl, hb2⟩; have HB2 := Lib.hid (HB0.out.trans (hb2.mono HB0.out.size)); clear hb2 HB0 C34)
        | (go_at_call 35; refine (C35.out _ ((HV.out.below HB2.out).more HB2.out.size)).mono ?_; rintro e w3 ⟨rfl, hb3⟩; have HB3 := Lib.hid (HB2.out.trans (hb3.mono HB2.out.size)); clear hb3 HB2 C35)
        | (go_at_call 36; refine (C36.out _ _ ((HV.out.below HB3.out).more HB3.out.size)).mono ?_; rintro e w5 ⟨rfl, hb5⟩; have HB5 := Lib.hid (HB3.out.trans (hb5.mono HB3.out.size)); clear hb5 HB3 C36)
        | (go_at_call 37; refine (C37.out _ ((HV.out.below HB5.out).more HB5.out.size)).mono ?_; rintro e w6 ⟨rfl, hb6⟩; have HB6 := Lib.hid (HB5.out.trans (hb6.mono HB5.out.size)); clear hb6 HB5 C37)
        | (go_at_call 38; refine (C38.out _ _ ((HV.out.below HB6.out).more HB6.out.size)).mono ?_; rintro e w8 ⟨v8, rfl, hb8, hs8⟩; have HB8 := Lib.hid (HB6.out.trans (hb8.mono HB6.out.size)); have HS8 := Lib.hid hs8; clear hb8 hs8 HB6 C38)
        | (go_at_call 39; refine (C39.out _ ((HV.out.below HB8.out).more HB8.out.size)).mono ?_; rintro e w9 ⟨v9, rfl, hb9, hs9⟩; have HB9 := Lib.hid (HB8.out.trans (hb9.mono HB8.out.size)); have HS9 := Lib.hid hs9; have HS8b := Lib.hid ((HS8.out.below hb9).more hb9.size); clear hb9 hs9 HB8 HS8 C39)
        | (go_at_call 40; refine (sameSplices_any _ _ ul ul _ HUL.out HUL.out HS8b.out HS9.out).mono ?_; rintro e w10 ⟨rfl, hb10⟩; rw [spl_refl]; have HB10 := Lib.hid (HB9.out.trans (hb10.mono HB9.out.size)); clear hb10)
        | (go_at_call 17; refine (awake_any _ (HN.out.keep HB10.out)).mono ?_; rintro e w11 ⟨rfl, hb11⟩; have HB11 := Lib.hid (HB10.out.trans (hb11.mono HB10.out.size)); clear hb11)
        | (go_at_call 17; refine (awake_any _ HN.out).mono ?_; rintro e w11 ⟨rfl, hb11⟩; have HB11 := Lib.hid hb11; clear hb11))
      all_goals go_ret
      all_goals exact ⟨rfl, HB11.out⟩
    · obtain ⟨A, c, hv', _⟩ := hv
      cases hv'
      go_enter Tryd.func6, Tryd.ntmps6
      go_wp2_with (first
        | (go_at_call 33; refine (C33.out _ HV.out).mono ?_; rintro e w' ⟨b, rfl, rfl⟩; cases b)
        | (at_builtin; refine wpList_append_own _ rfl _ _ 45 rfl w.heap.size 56 i0 _ 3 32 Tryd.underlying45 hi hz0 hz1 hz2 rfl (by decide) _ _ _ rfl (World.ownsRow_nil _ _ _ _) ad l.length _ (splCells l) rfl (splCells_length l) (splIn_cells (HV.out.below HB0.out)) (splCells_one l) (by unfold maxLen; omega) (by omega) HB0.out.size ?_; intro v1 w1 hown1 hgrow1 _; have HS1 := Lib.hid (splIn_own0 hown1); have HB1 := Lib.hid (HB0.out.grown hgrow1 HB0.out.size (fun k e => by cases e)); clear HB0 hown1 hgrow1)
        | (go_at_call 34; refine (C34.out _ _ HS1.out).mono ?_; rintro e w2 ⟨rfl, hb2⟩; have HB2 := Lib.hid (HB1.out.trans (hb2.mono HB1.out.size)); clear hb2 HB1 HS1 C34)
        | (go_at_call 35; refine (C35.out _ ((HV.out.below HB2.out).more HB2.out.size)).mono ?_; rintro e w3 ⟨rfl, hb3⟩; have HB3 := Lib.hid (HB2.out.trans (hb3.mono HB2.out.size)); clear hb3 HB2 C35)
        | (at_builtin; refine wpList_append_own _ rfl _ _ 45 rfl w.heap.size 56 i0 _ 3 32 Tryd.underlying45 hi hz0 hz1 hz2 rfl (by decide) _ _ _ rfl (World.ownsRow_nil _ _ _ _) ad l.length _ (splCells l) rfl (splCells_length l) (splIn_cells (HV.out.below HB3.out)) (splCells_one l) (by unfold maxLen; omega) (by omega) HB3.out.size ?_; intro v4 w4 hown4 hgrow4 _; have HS4 := Lib.hid (splIn_own0 hown4); have HB4 := Lib.hid (HB3.out.grown hgrow4 HB3.out.size (fun k e => by cases e)); clear HB3 hown4 hgrow4)
        | (go_at_call 36; refine (C36.out _ _ HS4.out).mono ?_; rintro e w5 ⟨rfl, hb5⟩; have HB5 := Lib.hid (HB4.out.trans (hb5.mono HB4.out.size)); clear hb5 HB4 HS4 C36)
        | (go_at_call 37; refine (C37.out _ ((HV.out.below HB5.out).more HB5.out.size)).mono ?_; rintro e w6 ⟨rfl, hb6⟩; have HB6 := Lib.hid (HB5.out.trans (hb6.mono HB5.out.size)); clear hb6 HB5 C37)
        | (at_builtin; refine wpList_append_own _ rfl _ _ 45 rfl w.heap.size 56 i0 _ 3 32 Tryd.underlying45 hi hz0 hz1 hz2 rfl (by decide) _ _ _ rfl (World.ownsRow_nil _ _ _ _) ad l.length _ (splCells l) rfl (splCells_length l) (splIn_cells (HV.out.below HB6.out)) (splCells_one l) (by unfold maxLen; omega) (by omega) HB6.out.size ?_; intro v7 w7 hown7 hgrow7 _; have HS7 := Lib.hid (splIn_own0 hown7); have HB7 := Lib.hid (HB6.out.grown hgrow7 HB6.out.size (fun k e => by cases e)); clear HB6 hown7 hgrow7)
        | (go_at_call 38; refine (C38.out _ _ HS7.out).mono ?_; rintro e w8 ⟨v8, rfl, hb8, hs8⟩; have HB8 := Lib.hid (HB7.out.trans (hb8.mono HB7.out.size)); have HS8 := Lib.hid hs8; clear hb8 hs8 HB7 HS7 C38)
        | (go_at_call 39; refine (C39.out _ ((HV.out.below HB8.out).more HB8.out.size)).mono ?_; rintro e w9 ⟨v9, rfl, hb9, hs9⟩; have HB9 := Lib.hid (HB8.out.trans (hb9.mono HB8.out.size)); have HS9 := Lib.hid hs9; have HS8b := Lib.hid ((HS8.out.below hb9).more hb9.size); clear hb9 hs9 HB8 HS8 C39)
        | (go_at_call 40; refine (sameSplices_any _ _ ul ul _ HUL.out HUL.out HS8b.out HS9.out).mono ?_; rintro e w10 ⟨rfl, hb10⟩; rw [spl_refl]; have HB10 := Lib.hid (HB9.out.trans (hb10.mono HB9.out.size)); clear hb10)
        | (go_at_call 17; refine (awake_any _ (HN.out.keep HB10.out)).mono ?_; rintro e w11 ⟨rfl, hb11⟩; have HB11 := Lib.hid (HB10.out.trans (hb11.mono HB10.out.size)); clear hb11)
        | (go_at_call 17; refine (awake_any _ HN.out).mono ?_; rintro e w11 ⟨rfl, hb11⟩; have HB11 := Lib.hid hb11; clear hb11))
      all_goals go_ret
      all_goals exact ⟨rfl, HB11.out⟩
end Go.Proofs.YtjadjmkbjolklaaDoor
