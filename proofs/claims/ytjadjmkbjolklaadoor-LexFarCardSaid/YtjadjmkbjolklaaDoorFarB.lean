/- What lex.Kept answers stays at least what cannot be touched. -/
import Derived.Test.YtjadjmkbjolklaaDoorFarA
import Derived.Test.YtjadjmkbjolklaaDoorKept
import Derived.Test.YtjadjmkbjolklaaDoorTks
namespace Go.Proofs.YtjadjmkbjolklaaDoor
open Go

theorem headG_pre {α : Type} (p : α → α → Bool) (hp : ∀ x, p x x = true) : ∀ (C A B : List α), C.length ≤ headG p (C ++ A) (C ++ B)
  | [], _, _ => Nat.zero_le _
  | c :: C, A, B => by
    have := headG_pre p hp C A B
    rw [List.cons_append, List.cons_append, headG, if_pos (hp c), List.length_cons]
    omega

theorem headG_ge {α : Type} (p : α → α → Bool) : ∀ (n : Nat) (l m : List α), (∀ i, i < n → ∃ x y, l[i]? = some x ∧ m[i]? = some y ∧ p x y = true) → n ≤ headG p l m
  | 0, _, _, _ => Nat.zero_le _
  | n + 1, l, m, h => by
    obtain ⟨x, y, h1, h2, h3⟩ := h 0 (by omega)
    match l, m with
    | [], _ => simp at h1
    | a :: l, [] => simp at h2
    | a :: l, b :: m =>
      simp only [List.getElem?_cons_zero, Option.some.injEq] at h1 h2
      subst h1 h2
      have := headG_ge p n l m (fun i hi => by simpa using h (i + 1) (by omega))
      rw [headG, if_pos h3]
      omega

theorem headG_rev {α : Type} (p : α → α → Bool) (A B U V : List α) (h : Nat) (hl : U.length = V.length) (hp : ∀ i, i < U.length → ∃ x y, U[i]? = some x ∧ V[i]? = some y ∧ p x y = true) :
    min U.length (min ((A ++ U).length - h) ((B ++ V).length - h)) ≤ headG p ((A ++ U).drop h).reverse ((B ++ V).drop h).reverse := by
  refine headG_ge p _ _ _ fun i hi => ?_
  have h1 : i < U.length := by omega
  have h2 : i < (A ++ U).length - h := by omega
  have h3 : i < (B ++ V).length - h := by omega
  obtain ⟨x, y, e1, e2, e3⟩ := hp (U.length - 1 - i) (by omega)
  refine ⟨x, y, ?_, ?_, e3⟩
  · rw [List.getElem?_reverse (by rw [List.length_drop]; exact h2), List.getElem?_drop, List.length_drop, List.getElem?_append_right (by rw [List.length_append] at h2 ⊢; omega), ← e1]
    congr 1
    rw [List.length_append] at h2 ⊢
    omega
  · rw [List.getElem?_reverse (by rw [List.length_drop]; exact h3), List.getElem?_drop, List.length_drop, List.getElem?_append_right (by rw [List.length_append] at h3 ⊢; omega), ← e2]
    congr 1
    rw [List.length_append] at h3 ⊢
    omega

/-- How many tokens end before a place; how many begin behind one. -/
def beforeN (f : Int) (l : List Piece) : Nat := (l.filter (fun p => decide ((p.at_ : Int) + p.text.size < f))).length
def behindN (n : Nat) (l : List Piece) : Nat := (l.filter (fun p => decide (n < p.at_))).length

theorem stayB_refl (x : Piece) : stayB x x = true := by
  unfold stayB
  exact decide_eq_true rfl

theorem mk_data (l : List UInt8) : (⟨l.toArray⟩ : ByteArray).data.toList = l := by simp

/-- What is so of a text that is spliced. -/
theorem far_parts {s : ByteArray} {x : Spl} (h : (applyRes s [x]).2 = 0) : 0 ≤ x.from_ ∧ x.from_ ≤ x.to_ ∧ x.to_ ≤ s.size ∧
    (applyRes s [x]).1 = s.data.toList.take x.from_.toNat ++ (x.text.data.toList ++ s.data.toList.drop x.to_.toNat) := by
  have hp : (planAnyRes s [x]).2 = 0 := by rw [← applyRes_code]; exact h
  obtain ⟨q1, q2, q3, _⟩ := splRight_cons (splErr_ok (planAny_ok hp).2.1).2.1
  refine ⟨q1, q2, q3, ?_⟩
  rw [applyRes_aft hp, aftS_cons]
  simp [aftS, chgs, afterB]

theorem far_before {s t : ByteArray} {x : Spl} (hf : 0 ≤ x.from_) (hft : x.from_ ≤ x.to_) (hto : x.to_ ≤ s.size) (ht : t.data.toList = s.data.toList.take x.from_.toNat ++ (x.text.data.toList ++ s.data.toList.drop x.to_.toNat))
    (h1 : (lexTokens s).2.2 = 0) (h2 : (lexTokens t).2.2 = 0) : beforeN x.from_ (lexTokens s).1 ≤ headG stayB (lexTokens s).1 (lexTokens t).1 := by
  have z1 : s.data.toList.length = s.size := by simp
  have z2 : t.data.toList.length = t.size := by simp
  have z3 : (s.data.toList.take x.from_.toNat).length = x.from_.toNat := by rw [List.length_take]; omega
  have z4 := congrArg List.length ht
  rw [List.length_append, z3, z2] at z4
  obtain ⟨C, R1, R2, e1, e2, e3⟩ := pcs_head (s := s) (t := t) (r := x.from_.toNat) (by rw [ht, List.take_append_of_le_length (by omega), List.take_take, Nat.min_self]) (by omega) (by omega)
  rw [tokens_tks h1, tokens_tks h2, e1, e2, tks_append, tks_append]
  refine Nat.le_trans ?_ (headG_pre stayB stayB_refl _ _ _)
  unfold beforeN
  rw [List.filter_append, filter_none (l := tks R1), List.append_nil]
  · exact List.length_filter_le _ _
  · intro y hy
    obtain ⟨y1, y2⟩ := List.mem_filter.1 hy
    have := e3 y y1 (by simpa using y2)
    simp only [decide_eq_false_iff_not]
    omega

theorem pcOrd_atn {n : Nat} : ∀ {f : Nat} {l : List Piece}, pcOrd n f l → ∀ x ∈ l, x.at_ ≤ n
  | _, [], _, x, h => by cases h
  | _, y :: r, ho, x, h => by
    rcases List.mem_cons.1 h with rfl | h
    · have := ho.2.1
      omega
    · exact pcOrd_atn ho.2.2 x h

theorem lf_line (s : ByteArray) (k : Nat) (h : k < s.size) (hl : lf s k = true) : s.data.toList = s.data.toList.take k ++ 10 :: s.data.toList.drop (k + 1) := by
  have h1 := drop_cons s k h
  rw [lf_get s k h, beq_iff_eq] at hl
  rw [hl] at h1
  rw [← h1, List.take_append_drop]

theorem far_behind {s t : ByteArray} {x : Spl} (_ : 0 ≤ x.from_) (hft : x.from_ ≤ x.to_) (hto : x.to_ ≤ s.size) (ht : t.data.toList = s.data.toList.take x.from_.toNat ++ (x.text.data.toList ++ s.data.toList.drop x.to_.toNat))
    (h1 : (lexTokens s).2.2 = 0) (h2 : (lexTokens t).2.2 = 0) (h : Nat) :
    min (behindN (lineEndP s x.to_.toNat) (lexTokens s).1) (min ((lexTokens s).1.length - h) ((lexTokens t).1.length - h)) ≤ headG (shiftB ((t.size : Int) - s.size)) ((lexTokens s).1.drop h).reverse ((lexTokens t).1.drop h).reverse := by
  have z1 : s.data.toList.length = s.size := by simp
  have z2 : t.data.toList.length = t.size := by simp
  have z5 : x.text.data.toList.length = x.text.size := by simp
  have z3 : (s.data.toList.take x.from_.toNat).length = x.from_.toNat := by rw [List.length_take]; omega
  have z4 := congrArg List.length ht
  rw [List.length_append, List.length_append, List.length_drop, z3, z2, z1, z5] at z4
  have hle := lineEndP_le s x.to_.toNat (by omega)
  have hge := lineEndP_ge s x.to_.toNat
  by_cases hlt : lineEndP s x.to_.toNat < s.size
  · have hlf := lineEndP_lf s x.to_.toNat hlt
    generalize lineEndP s x.to_.toNat = n at hlf hlt hge hle
    have es := lf_line s n hlt hlf
    have hd : s.data.toList.drop x.to_.toNat = (s.data.toList.drop x.to_.toNat).take (n - x.to_.toNat) ++ 10 :: s.data.toList.drop (n + 1) := by
      have := congrArg (List.drop x.to_.toNat) es
      rw [List.drop_append_of_le_length (by rw [List.length_take]; omega), List.drop_take] at this
      exact this
    have et : t.data.toList = (s.data.toList.take x.from_.toNat ++ (x.text.data.toList ++ (s.data.toList.drop x.to_.toNat).take (n - x.to_.toNat))) ++ 10 :: s.data.toList.drop (n + 1) := by
      rw [ht]
      conv => lhs; rw [hd]
      simp only [List.append_assoc]
    obtain ⟨C1, e1, e2⟩ := pcs_lf s _ _ es
    obtain ⟨C2, g1, g2⟩ := pcs_lf t _ _ et
    rw [List.length_take, z1, Nat.min_eq_left hle] at e1 e2
    rw [List.length_append, List.length_append, List.length_take (l := List.drop _ _), List.length_drop, z3, z5, z1, Nat.min_eq_left (by omega)] at g1 g2
    have hq : (s.data.toList.drop (n + 1)).length ≤ s.size := by rw [List.length_drop]; omega
    have hq2 : (s.data.toList.drop (n + 1)).length ≤ t.size := by rw [List.length_drop]; omega
    generalize s.data.toList.drop (n + 1) = Q at e1 g1 hq hq2
    have u1 : pcsG s.size (n + 1) Q = (pcsG s.size 0 Q).map (Piece.up (n + 1)) := by rw [← pcsG_up, Nat.zero_add]
    have u2 : pcsG t.size (x.from_.toNat + (x.text.size + (n - x.to_.toNat)) + 1) Q = (pcsG s.size 0 Q).map (Piece.up (x.from_.toNat + (x.text.size + (n - x.to_.toNat)) + 1)) := by rw [← pcsG_up, Nat.zero_add, pcsG_fuel t.size s.size _ Q hq2 hq]
    rw [tokens_tks h1, tokens_tks h2, e1, g1, tks_append, tks_append, u1, u2, tks_up, tks_up]
    have hb : behindN n (tks C1 ++ (tks (pcsG s.size 0 Q)).map (Piece.up (n + 1))) = ((tks (pcsG s.size 0 Q)).map (Piece.up (n + 1))).length := by
      unfold behindN
      rw [List.filter_append, filter_none (l := tks C1), List.nil_append, filter_all]
      · intro y hy
        obtain ⟨z, _, rfl⟩ := List.mem_map.1 hy
        have : (z.up (n + 1)).at_ = z.at_ + (n + 1) := rfl
        simp only [decide_eq_true_eq]
        omega
      · intro y hy
        have := e2 y (List.mem_filter.1 hy).1
        simp only [decide_eq_false_iff_not]
        omega
    rw [hb]
    refine headG_rev _ _ _ _ _ _ (by simp) fun i hi => ?_
    rw [List.length_map] at hi
    refine ⟨_, _, by rw [List.getElem?_map, List.getElem?_eq_getElem hi]; rfl, by rw [List.getElem?_map, List.getElem?_eq_getElem hi]; rfl, ?_⟩
    unfold shiftB Piece.up
    refine decide_eq_true ?_
    dsimp only
    rw [show (((tks (pcsG s.size 0 Q))[i].at_ + (n + 1) : Nat) : Int) + ((t.size : Int) - s.size) = (((tks (pcsG s.size 0 Q))[i].at_ + (x.from_.toNat + (x.text.size + (n - x.to_.toNat)) + 1) : Nat) : Int) by omega]
  · have hb : behindN (lineEndP s x.to_.toNat) (lexTokens s).1 = 0 := by
      unfold behindN
      rw [filter_none]
      · rfl
      · intro y hy
        have := pcOrd_atn (lexTokens_ok h1).2.2.2.2 y hy
        simp only [decide_eq_false_iff_not]
        omega
    rw [hb, Nat.zero_min]
    exact Nat.zero_le _
end Go.Proofs.YtjadjmkbjolklaaDoor
