/- What leads from a text to another one does so. -/
import Derived.Test.YtjadjmkbjolklaaDoorDiffB
import Derived.Test.YtjadjmkbjolklaaDoorSplA
import Derived.Test.YtjadjmkbjolklaaDoorPure8
namespace Go.Proofs.YtjadjmkbjolklaaDoor
open Go Go.RowKit

theorem headP_comm : ∀ l m : List UInt8, headP l m = headP m l
  | [], [] => rfl
  | [], y :: r' => rfl
  | x :: r, [] => rfl
  | x :: r, y :: r' => by
    rw [headP, headP, headP_comm r r']
    by_cases h : x = y
    · rw [if_pos h, if_pos h.symm]
    · rw [if_neg h, if_neg (fun e => h e.symm)]

theorem headP_take : ∀ l m : List UInt8, l.take (headP l m) = m.take (headP l m)
  | [], m => by simp [headP]
  | x :: r, [] => by simp [headP]
  | x :: r, y :: r' => by
    rw [headP]
    split
    · rename_i h
      rw [List.take_succ_cons, List.take_succ_cons, h, headP_take r r']
    · simp

theorem tail_drop (l m : List UInt8) : l.drop (l.length - headP l.reverse m.reverse) = m.drop (m.length - headP l.reverse m.reverse) := by
  have h := headP_take l.reverse m.reverse
  have h1 := congrArg List.reverse h
  rw [List.reverse_take, List.reverse_take, List.reverse_reverse, List.reverse_reverse] at h1
  simpa using h1

/-- All bytes of a text may stand in one. -/
theorem txt_all {s : ByteArray} : txt s = s.size ↔ ∀ j (h : j < s.size), inCls [1, 2, 3, 4, 5, 6, 7] s[j] = true := by
  constructor
  · intro h j hj
    exact (pastP_all _ s (s.size - 0) 0 rfl).1 j hj (by omega) (by show j < txt s; omega)
  · intro h
    rcases Nat.lt_or_ge (txt s) s.size with h1 | h1
    · have := (pastP_all (inCls [1, 2, 3, 4, 5, 6, 7]) s (s.size - 0) 0 rfl).2 h1
      exact absurd (h (pastP (inCls [1, 2, 3, 4, 5, 6, 7]) s 0) h1) (by rw [this]; simp)
    · have := txt_le s
      omega

theorem txt_mem {s : ByteArray} : txt s = s.size ↔ ∀ c ∈ s.data.toList, inCls [1, 2, 3, 4, 5, 6, 7] c = true := by
  rw [txt_all]
  constructor
  · intro h c hc
    obtain ⟨j, hj, rfl⟩ := List.getElem_of_mem hc
    exact h j (by simpa using hj)
  · intro h j hj
    exact h _ (by
      have : s[j] = s.data.toList[j]'(by simpa using hj) := rfl
      rw [this]
      exact List.getElem_mem _)

theorem textErr_zero {s : ByteArray} : (textErr s).2 = 0 ↔ s.size ≤ 2500 ∧ txt s = s.size := by
  have := txt_le s
  unfold textErr
  constructor
  · intro h
    split at h
    · cases h
    · split at h
      · cases h
      · exact ⟨by omega, by omega⟩
  · rintro ⟨h1, h2⟩
    rw [if_neg (by omega), if_neg (by omega)]

theorem textErr_zero_eq {s : ByteArray} (h : (textErr s).2 = 0) : textErr s = (0, 0) := by
  obtain ⟨h1, h2⟩ := textErr_zero.1 h
  unfold textErr
  rw [if_neg (by omega), if_neg (by omega)]

theorem ext_list (s : ByteArray) (i j : Nat) : (s.extract i j).data.toList = (s.data.toList.drop i).take (j - i) := by
  simp only [ByteArray.data_extract, Array.toList_extract, List.extract_eq_take_drop]

theorem txt_ext {s : ByteArray} (h : txt s = s.size) (i j : Nat) : txt (s.extract i j) = (s.extract i j).size := by
  rw [txt_mem] at h ⊢
  intro c hc
  rw [ext_list] at hc
  exact h c (List.mem_of_mem_drop (List.mem_of_mem_take hc))

section
variable (a b : ByteArray)
def dF : Nat := headP a.data.toList b.data.toList
def dN : Nat := headP (a.data.toList.drop (dF a b)).reverse (b.data.toList.drop (dF a b)).reverse

theorem dF_le : dF a b ≤ a.size ∧ dF a b ≤ b.size := by
  have := headP_le a.data.toList b.data.toList
  simpa [dF] using this
theorem dN_le : dF a b + dN a b ≤ a.size ∧ dF a b + dN a b ≤ b.size := by
  have h := headP_le (a.data.toList.drop (dF a b)).reverse (b.data.toList.drop (dF a b)).reverse
  have h2 := dF_le a b
  simp only [List.length_reverse, List.length_drop, Array.length_toList] at h
  have e1 : a.data.size = a.size := rfl
  have e2 : b.data.size = b.size := rfl
  unfold dN
  omega
theorem dF_comm : dF b a = dF a b := headP_comm _ _
theorem dN_comm : dN b a = dN a b := by
  unfold dN
  rw [dF_comm, headP_comm]

theorem dSpl : diffSpl a b = ⟨dF a b, (a.size : Int) - dN a b, b.extract (dF a b) (b.size - dN a b)⟩ := rfl

theorem d_head : a.data.toList.take (dF a b) = b.data.toList.take (dF a b) := headP_take _ _
theorem d_tail : a.data.toList.drop (a.size - dN a b) = b.data.toList.drop (b.size - dN a b) := by
  have h := tail_drop (a.data.toList.drop (dF a b)) (b.data.toList.drop (dF a b))
  have h1 := dF_le a b
  have h2 := dN_le a b
  have e1 : a.data.toList.length = a.size := by simp
  have e2 : b.data.toList.length = b.size := by simp
  change List.drop (_ - dN a b) _ = List.drop (_ - dN a b) _ at h
  rw [List.drop_drop, List.drop_drop, List.length_drop, List.length_drop, e1, e2] at h
  rw [show dF a b + (a.size - dF a b - dN a b) = a.size - dN a b by omega, show dF a b + (b.size - dF a b - dN a b) = b.size - dN a b by omega] at h
  exact h
end

theorem d_splErr (a b : ByteArray) (hb : (textErr b).2 = 0) : splErr a [diffSpl a b] = 0 := by
  have h1 := dN_le a b
  have h2 := (textErr_zero.1 hb).2
  unfold splErr
  rw [if_neg (by simp), if_neg, if_neg]
  · simp only [splBad]
    rw [dSpl, txt_ext h2, if_neg (Nat.lt_irrefl _)]
    simp
  · rw [dSpl]
    simp only [splRight]
    rw [if_neg (by omega)]
    simp

theorem d_grown (a b : ByteArray) : (a.size : Int) + grown a 0 [diffSpl a b] = b.size := by
  have h1 := dN_le a b
  rw [dSpl]
  simp only [grown, ByteArray.size_extract]
  omega

theorem d_plan (a b : ByteArray) (ha : (textErr a).2 = 0) (hb : (textErr b).2 = 0) : (planAnyRes a [diffSpl a b]).2 = 0 := by
  unfold planAnyRes planRes
  rw [if_neg (by rw [ha]; simp), if_neg (by rw [d_splErr a b hb]; simp), d_grown, if_neg]
  have := (textErr_zero.1 hb).1
  omega

theorem d_apply (a b : ByteArray) (ha : (textErr a).2 = 0) (hb : (textErr b).2 = 0) : applyRes a [diffSpl a b] = (b.data.toList, 0) := by
  have h1 := dN_le a b
  unfold applyRes
  rw [if_neg (by rw [d_plan a b ha hb]; simp)]
  congr 1
  rw [dSpl]
  simp only [chgs, afterB, Int.toNat_natCast, Nat.sub_zero, List.drop_zero]
  rw [show ((a.size : Int) - dN a b).toNat = a.size - dN a b by omega, d_head, d_tail, ext_list]
  have e2 : b.data.toList = b.data.toList.take (dF a b) ++ (b.data.toList.drop (dF a b)) := (List.take_append_drop _ _).symm
  have e3 : b.data.toList.drop (dF a b) = (b.data.toList.drop (dF a b)).take (b.size - dN a b - dF a b) ++ b.data.toList.drop (b.size - dN a b) := by
    conv => lhs; rw [← List.take_append_drop (b.size - dN a b - dF a b) (b.data.toList.drop (dF a b))]
    rw [List.drop_drop, show dF a b + (b.size - dN a b - dF a b) = b.size - dN a b by omega]
  rw [← e3]
  exact e2.symm

theorem d_undo (a b : ByteArray) (ha : (textErr a).2 = 0) (hb : (textErr b).2 = 0) : undoRes a [diffSpl a b] = ([diffSpl b a], 0) := by
  have h1 := dN_le a b
  unfold undoRes
  rw [if_neg (by rw [d_plan a b ha hb]; simp)]
  congr 1
  have e : ((a.size : Int) - dN a b).toNat = a.size - dN a b := by omega
  rw [dSpl, dSpl, dF_comm a b, dN_comm a b]
  simp only [backP, Int.toNat_natCast, Int.add_zero, ByteArray.size_extract, e]
  congr 2
  omega

theorem d_none (a : ByteArray) (ha : (textErr a).2 = 0) : applyRes a [] = (a.data.toList, 0) ∧ undoRes a [] = ([], 0) := by
  have h : (planAnyRes a []).2 = 0 := by
    have := (textErr_zero.1 ha).1
    unfold planAnyRes planRes
    rw [if_neg (by rw [ha]; simp), if_neg (by simp [splErr, splRight, splBad]), if_neg]
    simp only [grown]
    omega
  unfold applyRes undoRes
  rw [if_neg (by rw [h]; simp), if_neg (by rw [h]; simp)]
  exact ⟨rfl, rfl⟩

/-- What leads from a text to another one, whatever they are. -/
theorem diff_ok {a b : ByteArray} (h : (diffRes a b).2 = 0) : (textErr a).2 = 0 ∧ (textErr b).2 = 0 ∧ applyRes a (diffRes a b).1 = (b.data.toList, 0) ∧ undoRes a (diffRes a b).1 = ((diffRes b a).1, 0) ∧ (diffRes b a).2 = 0 ∧ (diffRes a b).1.length ≤ 1 ∧ (diffRes b a).1.length = (diffRes a b).1.length := by
  unfold diffRes at h
  split at h
  · rename_i h1
    exact absurd h h1
  · rename_i h1
    split at h
    · rename_i h2
      exact absurd h h2
    · rename_i h2
      have ha : (textErr a).2 = 0 := by simpa using h1
      have hb : (textErr b).2 = 0 := by simpa using h2
      by_cases hab : a = b
      · subst hab
        have e : diffRes a a = ([], 0) := by
          unfold diffRes
          rw [if_neg h1, if_neg h1, if_pos rfl]
        rw [e]
        exact ⟨ha, ha, (d_none a ha).1, (d_none a ha).2, rfl, by simp, rfl⟩
      · have e : diffRes a b = ([diffSpl a b], 0) := by
          unfold diffRes
          rw [if_neg h1, if_neg h2, if_neg hab]
        have e' : diffRes b a = ([diffSpl b a], 0) := by
          unfold diffRes
          rw [if_neg h2, if_neg h1, if_neg (fun x => hab x.symm)]
        rw [e, e']
        exact ⟨ha, hb, d_apply a b ha hb, d_undo a b ha hb, rfl, by simp, rfl⟩
end Go.Proofs.YtjadjmkbjolklaaDoor
