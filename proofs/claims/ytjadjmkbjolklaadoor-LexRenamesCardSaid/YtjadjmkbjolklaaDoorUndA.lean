/- Splices lead back, and bytes that stay keep their order. -/
import Derived.Test.YtjadjmkbjolklaaDoorDifA
namespace Go.Proofs.YtjadjmkbjolklaaDoor
open Go Go.RowKit

/-- The text after splices from a place on, whatever the growth before. -/
theorem afterB_g (s : ByteArray) : ∀ (l : List Spl) (f : Nat) (g g' : Int), afterB s f (chgs s g l) = afterB s f (chgs s g' l)
  | [], _, _, _ => rfl
  | x :: r, f, g, g' => by
    rw [chgs, chgs, afterB, afterB]
    dsimp only
    rw [afterB_g s r _ _ (g' + ((x.text.size : Int) - (s.extract x.from_.toNat x.to_.toNat).size))]

def aftS (s : ByteArray) (f : Nat) (l : List Spl) : List UInt8 := afterB s f (chgs s 0 l)

theorem aftS_cons (s : ByteArray) (f : Nat) (x : Spl) (r : List Spl) : aftS s f (x :: r) = (s.data.toList.drop f).take (x.from_.toNat - f) ++ (x.text.data.toList ++ aftS s x.to_.toNat r) := by
  unfold aftS
  rw [chgs, afterB]
  dsimp only
  rw [afterB_g s r _ _ 0]

theorem splRight_cons {n : Nat} {last : Int} {x : Spl} {r : List Spl} (h : splRight n last (x :: r) = true) : last ≤ x.from_ ∧ x.from_ ≤ x.to_ ∧ x.to_ ≤ n ∧ splRight n x.to_ r = true := by
  rw [splRight] at h
  split at h
  · cases h
  · exact ⟨by omega, by omega, by omega, h⟩

theorem grow1_eq {s : ByteArray} {x : Spl} {last : Int} {r : List Spl} (h0 : 0 ≤ last) (h : splRight s.size last (x :: r) = true) : grow1 s x = x.text.size - (x.to_ - x.from_) := by
  obtain ⟨h1, h2, h3, _⟩ := splRight_cons h
  unfold grow1
  simp only [ByteArray.size_extract]
  omega

theorem take_len (s : ByteArray) (f n : Nat) (h : f + n ≤ s.size) : ((s.data.toList.drop f).take n).length = n := by
  simp
  omega

/-- What stands behind: the text t from place f + g on is the text after the splices l of s from f on. -/
structure Beh (s t : ByteArray) (f : Nat) (g : Int) (l : List Spl) : Prop where
  pos : 0 ≤ (f : Int) + g
  fs : f ≤ s.size
  right : splRight s.size f l = true
  drop : t.data.toList.drop ((f : Int) + g).toNat = aftS s f l
  le : ((f : Int) + g).toNat ≤ t.size

theorem Beh.next {s t : ByteArray} {f : Nat} {g : Int} {x : Spl} {r : List Spl} (h : Beh s t f g (x :: r)) :
    Beh s t x.to_.toNat (g + grow1 s x) r ∧ (x.to_.toNat : Int) + (g + grow1 s x) = x.from_ + g + x.text.size ∧ x.from_ + g + x.text.size ≤ t.size := by
  obtain ⟨h1, h2, h3, h4⟩ := splRight_cons h.right
  have hg := grow1_eq (by omega) h.right
  have hp := h.pos
  have hd := h.drop
  have hl := h.le
  have hf := h.fs
  have hd1 := congrArg List.length hd
  rw [aftS_cons] at hd hd1
  have ht := take_len s f (x.from_.toNat - f) (by omega)
  have e2 : x.text.data.toList.length = x.text.size := by simp
  have e3 : t.data.toList.length = t.size := by simp
  simp only [List.length_append, List.length_drop, ht, e2, e3] at hd1
  have hto : ((x.to_.toNat : Nat) : Int) = x.to_ := Int.toNat_of_nonneg (by omega)
  refine ⟨⟨by omega, by omega, by rw [hto]; exact h4, ?_, by omega⟩, by omega, by omega⟩
  have e : ((x.to_.toNat : Int) + (g + grow1 s x)).toNat = ((f : Int) + g).toNat + ((x.from_.toNat - f) + x.text.size) := by omega
  rw [e, ← List.drop_drop, hd, ← List.append_assoc, List.drop_append_of_le_length (by simp only [List.length_append, ht, e2]; omega)]
  rw [List.drop_eq_nil_of_le (by simp only [List.length_append, ht, e2]; omega), List.nil_append]

theorem Beh.end_ {s t : ByteArray} {f : Nat} {g : Int} (h : Beh s t f g []) : t.data.toList.drop ((f : Int) + g).toNat = s.data.toList.drop f := h.drop

theorem aft_size {s t : ByteArray} : ∀ {l : List Spl} {f : Nat} {g : Int}, Beh s t f g l → (t.size : Int) = s.size + (grown s g l)
  | [], f, g, h => by
    have := congrArg List.length h.end_
    have hp := h.pos
    have hf := h.fs
    have hl := h.le
    have e3 : t.data.toList.length = t.size := by simp
    have e4 : s.data.toList.length = s.size := by simp
    simp only [List.length_drop, e3, e4] at this
    rw [grown]
    omega
  | x :: r, f, g, h => by
    have := aft_size h.next.1
    rw [grown]
    exact this

theorem back_right {s t : ByteArray} : ∀ {l : List Spl} {f : Nat} {g : Int}, Beh s t f g l → splRight t.size ((f : Int) + g) (backP s g l) = true
  | [], f, g, h => rfl
  | x :: r, f, g, h => by
    obtain ⟨h1, h2, h3, h4⟩ := splRight_cons h.right
    obtain ⟨hn, e, hle⟩ := h.next
    have ih := back_right hn
    rw [e] at ih
    rw [backP, splRight, if_neg]
    · exact ih
    · dsimp only
      omega

theorem back_bad {s : ByteArray} (hs : txt s = s.size) : ∀ (l : List Spl) (g : Int), splBad (backP s g l) = false
  | [], g => rfl
  | x :: r, g => by
    rw [backP, splBad]
    dsimp only
    rw [txt_ext hs, if_neg (Nat.lt_irrefl _)]
    exact back_bad hs r _

theorem back_length (s : ByteArray) : ∀ (l : List Spl) (g : Int), (backP s g l).length = l.length
  | [], g => rfl
  | x :: r, g => by rw [backP, List.length_cons, List.length_cons, back_length s r]

theorem back_grow {s t : ByteArray} {f : Nat} {g : Int} {x : Spl} {r : List Spl} (h : Beh s t f g (x :: r)) :
    grow1 t ⟨x.from_ + g, x.from_ + g + x.text.size, s.extract x.from_.toNat x.to_.toNat⟩ = -grow1 s x := by
  obtain ⟨h1, h2, h3, h4⟩ := splRight_cons h.right
  obtain ⟨_, _, hle⟩ := h.next
  have hp := h.pos
  rw [grow1_eq (by omega) h.right]
  unfold grow1
  simp only [ByteArray.size_extract]
  omega

theorem back_grown {s t : ByteArray} : ∀ {l : List Spl} {f : Nat} {g k : Int}, Beh s t f g l → grown t k (backP s g l) + grown s g l = k + g
  | [], f, g, k, h => rfl
  | x :: r, f, g, k, h => by
    have hb := back_grow h
    have ih := back_grown (k := k + grow1 t ⟨x.from_ + g, x.from_ + g + x.text.size, s.extract x.from_.toNat x.to_.toNat⟩) h.next.1
    rw [backP, grown, grown]
    have e : grown s (g + grow1 s x) r = grown s (g + ((x.text.size : Int) - (s.extract x.from_.toNat x.to_.toNat).size)) r := rfl
    rw [e] at ih
    refine ih.trans ?_
    rw [hb]
    omega

theorem back_after {s t : ByteArray} : ∀ {l : List Spl} {f : Nat} {g : Int}, Beh s t f g l → aftS t ((f : Int) + g).toNat (backP s g l) = s.data.toList.drop f
  | [], f, g, h => h.end_
  | x :: r, f, g, h => by
    obtain ⟨h1, h2, h3, h4⟩ := splRight_cons h.right
    obtain ⟨hn, e, hle⟩ := h.next
    have hp := h.pos
    have ih := back_after hn
    rw [e] at ih
    rw [backP, aftS_cons]
    dsimp only
    rw [ih, h.drop, aftS_cons, ext_list]
    have ht := take_len s f (x.from_.toNat - f) (by omega)
    rw [show (x.from_ + g).toNat - ((f : Int) + g).toNat = x.from_.toNat - f by omega, List.take_append_of_le_length (by rw [ht]; exact Nat.le_refl _), List.take_of_length_le (by rw [ht]; exact Nat.le_refl _)]
    have e1 : (s.data.toList.drop x.from_.toNat).take (x.to_.toNat - x.from_.toNat) ++ s.data.toList.drop x.to_.toNat = s.data.toList.drop x.from_.toNat := by
      conv => rhs; rw [← List.take_append_drop (x.to_.toNat - x.from_.toNat) (s.data.toList.drop x.from_.toNat)]
      rw [List.drop_drop, show x.from_.toNat + (x.to_.toNat - x.from_.toNat) = x.to_.toNat by omega]
    rw [e1]
    conv => rhs; rw [← List.take_append_drop (x.from_.toNat - f) (s.data.toList.drop f)]
    rw [List.drop_drop, show f + (x.from_.toNat - f) = x.from_.toNat by omega]

/-- All splices begin behind a place. -/
theorem mvP_before (s : ByteArray) (a : Int) : ∀ (l : List Spl) (n : Nat) (last g : Int), a < last → splRight n last l = true → mvP s a g l = (a + g, 0)
  | [], _, _, _, _, _ => rfl
  | x :: r, n, last, g, h, hr => by
    obtain ⟨h1, h2, h3, h4⟩ := splRight_cons hr
    rw [mvP, if_neg (by omega), if_neg (by omega)]
    exact mvP_before s a r n x.to_ g (by omega) h4

/-- Where a byte that stays goes: not before what it was behind; it is the same byte; and it goes back. -/
theorem mv_back {s t : ByteArray} : ∀ {l : List Spl} {f : Nat} {g : Int} {a n : Int}, Beh s t f g l → (f : Int) ≤ a → mvP s a g l = (n, 0) →
    (f : Int) + g ≤ n ∧ t.data.toList[n.toNat]? = s.data.toList[a.toNat]? ∧ mvP t n (-g) (backP s g l) = (a, 0)
  | [], f, g, a, n, h, hf, hm => by
    have hp := h.pos
    simp only [mvP, Prod.mk.injEq, and_true] at hm
    subst hm
    refine ⟨by omega, ?_, ?_⟩
    · have e := congrArg (fun l => l[a.toNat - f]?) h.end_
      simp only [List.getElem?_drop] at e
      rw [show ((f : Int) + g).toNat + (a.toNat - f) = (a + g).toNat by omega, show f + (a.toNat - f) = a.toNat by omega] at e
      exact e
    · simp only [backP, mvP, Prod.mk.injEq, and_true]
      omega
  | x :: r, f, g, a, n, h, hf, hm => by
    obtain ⟨h1, h2, h3, h4⟩ := splRight_cons h.right
    obtain ⟨hn, e, hle⟩ := h.next
    have hp := h.pos
    have hfs := h.fs
    rw [mvP] at hm
    split at hm
    · cases hm
    · rename_i hin
      by_cases hto : x.to_ ≤ a
      · rw [if_pos hto] at hm
        obtain ⟨i1, i2, i3⟩ := mv_back hn (by omega) hm
        refine ⟨by omega, i2, ?_⟩
        rw [backP, mvP, if_neg (by dsimp only; omega), if_pos (by dsimp only; omega), back_grow h]
        rw [show -g + -grow1 s x = -(g + grow1 s x) by omega]
        exact i3
      · rw [if_neg hto] at hm
        rw [mvP_before s a r s.size x.to_ g (by omega) h4] at hm
        simp only [Prod.mk.injEq, and_true] at hm
        subst hm
        refine ⟨by omega, ?_, ?_⟩
        · have e1 := congrArg (fun l => l[a.toNat - f]?) h.drop
          rw [aftS_cons] at e1
          have ht := take_len s f (x.from_.toNat - f) (by omega)
          rw [List.getElem?_append_left (by rw [ht]; omega), List.getElem?_take_of_lt (by omega), List.getElem?_drop, List.getElem?_drop] at e1
          rw [show ((f : Int) + g).toNat + (a.toNat - f) = (a + g).toNat by omega, show f + (a.toNat - f) = a.toNat by omega] at e1
          exact e1
        · have hb := back_right h
          rw [backP] at hb
          obtain ⟨b1, b2, b3, b4⟩ := splRight_cons hb
          dsimp only at b1 b2 b3 b4
          rw [backP, mvP, if_neg (by dsimp only; omega), if_neg (by dsimp only; omega), mvP_before t (a + g) _ t.size _ (-g) (by omega) b4]
          simp only [Prod.mk.injEq, and_true]
          omega

theorem mv_mono {s t : ByteArray} : ∀ {l : List Spl} {f : Nat} {g : Int} {a a' n n' : Int}, Beh s t f g l → (f : Int) ≤ a → a < a' → mvP s a g l = (n, 0) → mvP s a' g l = (n', 0) → n < n'
  | [], f, g, a, a', n, n', h, hf, ha, hm, hm' => by
    simp only [mvP, Prod.mk.injEq, and_true] at hm hm'
    omega
  | x :: r, f, g, a, a', n, n', h, hf, ha, hm, hm' => by
    obtain ⟨h1, h2, h3, h4⟩ := splRight_cons h.right
    obtain ⟨hn, e, hle⟩ := h.next
    rw [mvP] at hm hm'
    split at hm
    · cases hm
    · split at hm'
      · cases hm'
      · by_cases hto : x.to_ ≤ a
        · rw [if_pos hto] at hm
          rw [if_pos (by omega)] at hm'
          exact mv_mono hn (by omega) ha hm hm'
        · rw [if_neg hto, mvP_before s a r s.size x.to_ g (by omega) h4] at hm
          simp only [Prod.mk.injEq, and_true] at hm
          by_cases hto' : x.to_ ≤ a'
          · rw [if_pos hto'] at hm'
            have := (mv_back hn (by omega) hm').1
            omega
          · rw [if_neg hto', mvP_before s a' r s.size x.to_ g (by omega) h4] at hm'
            simp only [Prod.mk.injEq, and_true] at hm'
            omega

theorem txt_after {s : ByteArray} (hs : txt s = s.size) : ∀ (l : List Spl) (f : Nat), splBad l = false → ∀ c ∈ aftS s f l, inCls [1, 2, 3, 4, 5, 6, 7] c = true
  | [], f, _, c, hc => by
    rw [txt_mem] at hs
    exact hs c (List.mem_of_mem_drop hc)
  | x :: r, f, hb, c, hc => by
    rw [splBad] at hb
    split at hb
    · cases hb
    · rename_i hx
      rw [aftS_cons, List.mem_append, List.mem_append] at hc
      rcases hc with hc | hc | hc
      · rw [txt_mem] at hs
        exact hs c (List.mem_of_mem_drop (List.mem_of_mem_take hc))
      · have hx2 : txt x.text = x.text.size := by have := txt_le x.text; omega
        rw [txt_mem] at hx2
        exact hx2 c hc
      · exact txt_after hs r _ hb c hc

/-- What Apply gives, given that it is no error. -/
theorem apply_beh {s : ByteArray} {l : List Spl} (h : (applyRes s l).2 = 0) :
    (planAnyRes s l).2 = 0 ∧ Beh s ⟨(applyRes s l).1.toArray⟩ 0 0 l ∧ (applyRes ⟨(applyRes s l).1.toArray⟩ (backP s 0 l)) = (s.data.toList, 0) ∧ undoRes s l = (backP s 0 l, 0) ∧ (planAnyRes ⟨(applyRes s l).1.toArray⟩ (backP s 0 l)).2 = 0 := by
  have hp : (planAnyRes s l).2 = 0 := by
    unfold applyRes at h
    split at h
    · rename_i h1
      exact absurd h h1
    · rename_i h1
      simpa using h1
  have ha : (applyRes s l).1 = aftS s 0 l := by
    unfold applyRes
    rw [if_neg (by rw [hp]; simp)]
    rfl
  obtain ⟨p1, p2, p3, p4⟩ := planAny_ok hp
  obtain ⟨q1, q2, q3⟩ := splErr_ok p2
  obtain ⟨t1, t2⟩ := textErr_zero.1 p1
  rw [ha]
  have hB : Beh s ⟨(aftS s 0 l).toArray⟩ 0 0 l := ⟨by simp, by simp, q2, by simp, by simp⟩
  have hsz := aft_size hB
  have hback : (planAnyRes ⟨(aftS s 0 l).toArray⟩ (backP s 0 l)).2 = 0 := by
    have ht : (textErr ⟨(aftS s 0 l).toArray⟩).2 = 0 := by
      rw [textErr_zero]
      refine ⟨by omega, ?_⟩
      rw [txt_mem]
      intro c hc
      exact txt_after t2 l 0 q3 c (by simpa using hc)
    have he : splErr ⟨(aftS s 0 l).toArray⟩ (backP s 0 l) = 0 := by
      unfold splErr
      have hr := back_right hB
      rw [show (((0 : Nat) : Int) + 0) = 0 from rfl] at hr
      rw [if_neg (by rw [back_length]; omega), hr, back_bad t2, if_neg (by simp), if_neg (by simp)]
    unfold planAnyRes planRes
    rw [if_neg (by rw [ht]; simp), if_neg (by rw [he]; simp), if_neg]
    have := back_grown (k := 0) hB
    omega
  refine ⟨hp, hB, ?_, ?_, hback⟩
  · unfold applyRes
    rw [if_neg (by rw [hback]; simp)]
    have := back_after hB
    have e : (((0 : Nat) : Int) + 0).toNat = 0 := rfl
    rw [e] at this
    show (aftS _ 0 _, (0 : Int)) = _
    rw [this]
    rfl
  · unfold undoRes
    rw [if_neg (by rw [hp]; simp)]

/-- A byte that stays, or not. -/
theorem moved_ok {s : ByteArray} {l : List Spl} (h : (applyRes s l).2 = 0) {a : Int} (h0 : 0 ≤ a) (h1 : a < s.size) :
    movedRes s l a = mvP s a 0 l ∧ (mvP s a 0 l = (0, 7) ∨ ∃ n : Int, mvP s a 0 l = (n, 0) ∧ 0 ≤ n ∧ n < (applyRes s l).1.length ∧ (applyRes s l).1[n.toNat]? = s.data.toList[a.toNat]? ∧ movedRes ⟨(applyRes s l).1.toArray⟩ (backP s 0 l) n = (a, 0)) := by
  obtain ⟨hp, hB, _, _, hback⟩ := apply_beh h
  refine ⟨by unfold movedRes; rw [if_neg (by rw [hp]; simp), if_neg (by omega)], ?_⟩
  have hor : ∀ (l : List Spl) (g : Int), mvP s a g l = (0, 7) ∨ ∃ n : Int, mvP s a g l = (n, 0) := by
    intro l
    induction l with
    | nil => intro g; exact .inr ⟨_, rfl⟩
    | cons x r ih =>
      intro g
      rw [mvP]
      split
      · exact .inl rfl
      · exact ih _
  rcases hor l 0 with h7 | ⟨n, hn⟩
  · exact .inl h7
  · refine .inr ⟨n, hn, ?_⟩
    obtain ⟨i1, i2, i3⟩ := mv_back hB (by simpa using h0) hn
    have i1' : 0 ≤ n := by simpa using i1
    have i2' : (applyRes s l).1[n.toNat]? = s.data.toList[a.toNat]? := by simpa using i2
    have hlt : n.toNat < (applyRes s l).1.length := by
      rcases Nat.lt_or_ge n.toNat (applyRes s l).1.length with h | h
      · exact h
      · rw [List.getElem?_eq_none h, List.getElem?_eq_getElem (by simp; omega)] at i2'
        cases i2'
    refine ⟨i1', by omega, i2', ?_⟩
    unfold movedRes
    rw [if_neg (by rw [hback]; simp), if_neg (by
      have e : (ByteArray.mk (applyRes s l).1.toArray).size = (applyRes s l).1.length := by simp [ByteArray.size]
      rw [e]
      omega)]
    simpa using i3
end Go.Proofs.YtjadjmkbjolklaaDoor
