/- Right tokens as pieces, and where one ends when another one follows. -/
import Derived.Test.YtjadjmkbjolklaaGreatDoorSegB
import Derived.Test.YtjadjmkbjolklaaGreatDoorTgtA
namespace Go.Proofs.YtjadjmkbjolklaaGreatDoor
open Go

theorem right_pc {k : Int} {r : ByteArray} (h : isRightP k r = true) : ∃ c q, r.data.toList = c :: q ∧ peL r.data.toList = r.data.toList.length ∧ (kindP r).2 = 0 ∧ (kindP r).1 = k ∧ k ≠ 5 ∧
    ((cls c.toNat = 2 ∧ (k = 1 ∨ k = 3)) ∨ (cls c.toNat = 4 ∧ k = 2) ∨ (cls c.toNat = 5 ∧ k = 4)) := by
  unfold isRightP at h
  simp only [Bool.and_eq_true, decide_eq_true_eq] at h
  obtain ⟨h0, h1, h2, h3, h4⟩ := h
  have hd := drop_cons r 0 h0
  rw [List.drop_zero] at hd
  have hz : r.data.toList.length = r.size := by simp
  have hp := peL_eq r 0 h0
  rw [List.drop_zero, Nat.zero_add] at hp
  have hle := peL_le r.data.toList
  refine ⟨r[0], _, hd, by omega, h2, h3, h3 ▸ h4, ?_⟩
  unfold kindP at h2 h3
  rw [getBang r 0 h0] at h2 h3
  by_cases c2 : cls r[0].toNat = 2
  · rw [if_pos c2] at h3
    left
    refine ⟨c2, ?_⟩
    split at h3
    · exact .inr h3.symm
    · split at h3
      · exact .inl h3.symm
      · exact .inl h3.symm
  · rw [if_neg c2] at h2 h3
    by_cases c4 : cls r[0].toNat = 4
    · rw [if_pos c4] at h3
      exact .inr (.inl ⟨c4, h3.symm⟩)
    · rw [if_neg c4] at h2 h3
      by_cases c5 : cls r[0].toNat = 5
      · rw [if_pos c5] at h3
        exact .inr (.inr ⟨c5, h3.symm⟩)
      · rw [if_neg c5] at h2 h3
        by_cases c6 : cls r[0].toNat = 6
        · rw [if_pos c6] at h3
          unfold kindP at h4
          rw [getBang r 0 h0, if_neg c2, if_neg c4, if_neg c5, if_pos c6] at h4
          exact absurd rfl h4
        · rw [if_neg c6] at h2
          exact absurd h2 (by decide)

theorem peL_wordE {c : UInt8} {q : List UInt8} (hc : cls c.toNat = 2 ∨ cls c.toNat = 4) : peL (c :: q) = spL (inCls [2, 3, 4]) (c :: q) := by
  unfold peL
  simp only []
  rw [if_pos hc]

theorem spL_all (p : UInt8 → Bool) : ∀ (L : List UInt8), spL p L = L.length → ∀ c ∈ L, p c = true
  | [], _, c, h => by cases h
  | d :: L, hl, c, h => by
    unfold spL at hl
    by_cases hd : p d = true
    · rw [List.takeWhile_cons_of_pos hd] at hl
      rcases List.mem_cons.1 h with rfl | h
      · exact hd
      · exact spL_all p L (by unfold spL; simpa using hl) c h
    · rw [List.takeWhile_cons_of_neg hd] at hl
      simp at hl

theorem spL_more (p : UInt8 → Bool) : ∀ (L R : List UInt8) (d : UInt8), (∀ c ∈ L, p c = true) → p d = true → L.length < spL p (L ++ d :: R)
  | [], R, d, _, hd => by
    unfold spL
    rw [List.nil_append, List.takeWhile_cons_of_pos hd]
    simp
  | c :: L, R, d, h, hd => by
    have := spL_more p L R d (fun e he => h e (.tail _ he)) hd
    unfold spL at this ⊢
    rw [List.cons_append, List.takeWhile_cons_of_pos (h c (.head _))]
    simpa using this

theorem peL_signE {c : UInt8} {q : List UInt8} (hc : cls c.toNat = 5) : peL (c :: q) = if Lib.hasPrefix (c :: q) [58, 61] = true ∨ Lib.hasPrefix (c :: q) [45, 62] = true then 2 else 1 := by
  unfold peL
  simp only []
  rw [if_neg (by rw [hc]; decide), if_neg (by rw [hc]; decide)]

theorem hasP2 (c a b : UInt8) (q : List UInt8) : Lib.hasPrefix (c :: q) [a, b] = true ↔ c = a ∧ ∃ r, q = b :: r := by
  unfold Lib.hasPrefix
  cases q with
  | nil => simp [List.isPrefixOf]
  | cons d q =>
    simp only [List.isPrefixOf, Bool.and_true, Bool.and_eq_true, beq_iff_eq, List.cons.injEq]
    constructor
    · rintro ⟨rfl, rfl⟩
      exact ⟨rfl, q, rfl, rfl⟩
    · rintro ⟨rfl, r, rfl, _⟩
      exact ⟨rfl, rfl⟩

/-- A right sign. -/
theorem sign_bytes {c : UInt8} {q : List UInt8} (hc : cls c.toNat = 5) (h : peL (c :: q) = (c :: q).length) : q = [] ∨ (c = 58 ∧ q = [61]) ∨ (c = 45 ∧ q = [62]) := by
  rw [peL_signE hc] at h
  split at h
  · rename_i h1
    rw [hasP2, hasP2] at h1
    rcases h1 with ⟨rfl, r, rfl⟩ | ⟨rfl, r, rfl⟩
    · obtain rfl : r = [] := List.eq_nil_of_length_eq_zero (by simp only [List.length_cons] at h; omega)
      exact .inr (.inl ⟨rfl, rfl⟩)
    · obtain rfl : r = [] := List.eq_nil_of_length_eq_zero (by simp only [List.length_cons] at h; omega)
      exact .inr (.inr ⟨rfl, rfl⟩)
  · exact .inl (List.eq_nil_of_length_eq_zero (by simp only [List.length_cons] at h; omega))

theorem mark_word {c : UInt8} (h : cls c.toNat = 5) : inCls [2, 3, 4] c = false := by
  unfold inCls
  simp [h]

theorem word_word {c : UInt8} (h : cls c.toNat = 2 ∨ cls c.toNat = 4) : inCls [2, 3, 4] c = true := by
  unfold inCls
  rcases h with h | h <;> simp [h]

theorem bytes_eq {r : ByteArray} {l : List UInt8} (h : r.data.toList = l) : r = ⟨l.toArray⟩ := by
  subst h
  apply ByteArray.ext
  simp

/-- The head of a right token is no gap. -/
theorem right_head {k : Int} {r : ByteArray} (h : isRightP k r = true) : ∃ c q, r.data.toList = c :: q ∧ inCls [1] c = false := by
  obtain ⟨c, q, h1, _, _, _, _, h2⟩ := right_pc h
  refine ⟨c, q, h1, ?_⟩
  unfold inCls
  rcases h2 with ⟨h2, _⟩ | ⟨h2, _⟩ | ⟨h2, _⟩ <;> simp [h2]

/-- A right token ends where a blank stands that must. -/
theorem junct {x y : Tk} (hx : rightT x = true) (hy : rightT y = true) {c : UInt8} {q R : List UInt8} (hc : y.text.data.toList = c :: q) :
    peL (x.text.data.toList ++ ((if glue x y = true then [32] else []) ++ c :: R)) = x.text.data.toList.length := by
  obtain ⟨a, p, e1, e2, e3, e4, e5, e6⟩ := right_pc hx
  obtain ⟨c', q', f1, f2, f3, f4, f5, f6⟩ := right_pc hy
  rw [hc] at f1
  cases f1
  rw [e1] at e2 ⊢
  by_cases hw : cls a.toNat = 2 ∨ cls a.toNat = 4
  · rw [List.cons_append, peL_wordE hw, ← List.cons_append]
    rw [peL_wordE hw] at e2
    refine spL_exact _ _ _ (spL_all _ _ e2) (.inr ?_)
    by_cases hg : glue x y = true
    · rw [if_pos hg]
      exact ⟨32, _, rfl, by decide⟩
    · rw [if_neg hg]
      refine ⟨c, R, rfl, ?_⟩
      have hk : x.kind ≠ 4 := by
        rcases e6 with ⟨_, h | h⟩ | ⟨_, h⟩ | ⟨h, _⟩
        · omega
        · omega
        · omega
        · rcases hw with hw | hw <;> (rw [h] at hw; exact absurd hw (by decide))
      have hk' : y.kind = 4 := by
        unfold glue at hg
        simp only [Bool.or_eq_true, Bool.and_eq_true, decide_eq_true_eq, not_or, not_and] at hg
        have := hg.1 hk
        omega
      rcases f6 with ⟨_, h | h⟩ | ⟨_, h⟩ | ⟨h, _⟩
      · omega
      · omega
      · omega
      · exact mark_word h
  · have h5 : cls a.toNat = 5 := by
      rcases e6 with ⟨h, _⟩ | ⟨h, _⟩ | ⟨h, _⟩
      · exact absurd (.inl h) hw
      · exact absurd (.inr h) hw
      · exact h
    rw [List.cons_append, peL_signE h5]
    rcases sign_bytes h5 e2 with rfl | ⟨rfl, rfl⟩ | ⟨rfl, rfl⟩
    · rw [if_neg]
      · rfl
      · rw [List.nil_append, hasP2, hasP2]
        rintro (⟨rfl, r, hr⟩ | ⟨rfl, r, hr⟩)
        · by_cases hg : glue x y = true
          · rw [if_pos hg] at hr
            simp at hr
          · rw [if_neg hg] at hr
            simp only [List.nil_append, List.cons.injEq] at hr
            obtain ⟨rfl, _⟩ := hr
            have hcy : cls (61 : UInt8).toNat = 5 := by decide
            rw [hc] at f2
            rcases sign_bytes hcy f2 with rfl | ⟨h, _⟩ | ⟨h, _⟩
            · refine hg ?_
              unfold glue
              simp [bytes_eq e1, bytes_eq hc]
            · exact absurd h (by decide)
            · exact absurd h (by decide)
        · by_cases hg : glue x y = true
          · rw [if_pos hg] at hr
            simp at hr
          · rw [if_neg hg] at hr
            simp only [List.nil_append, List.cons.injEq] at hr
            obtain ⟨rfl, _⟩ := hr
            rcases f6 with ⟨h, _⟩ | ⟨h, _⟩ | ⟨h, _⟩ <;> exact absurd h (by decide)
    · rw [if_pos]
      · rfl
      · rw [hasP2]
        exact .inl ⟨rfl, _, rfl⟩
    · rw [if_pos]
      · rfl
      · rw [hasP2, hasP2]
        exact .inr ⟨rfl, _, rfl⟩

/-- Without the blank the first one of two tokens goes on. -/
theorem no_junct {x y : Tk} (hx : rightT x = true) (hy : rightT y = true) (hg : glue x y = true) {c : UInt8} {q : List UInt8} (hc : y.text.data.toList = c :: q) (R : List UInt8) :
    x.text.data.toList.length < peL (x.text.data.toList ++ c :: R) := by
  obtain ⟨a, p, e1, e2, e3, e4, e5, e6⟩ := right_pc hx
  obtain ⟨c', q', f1, f2, f3, f4, f5, f6⟩ := right_pc hy
  rw [hc] at f1
  cases f1
  unfold glue at hg
  simp only [Bool.or_eq_true, Bool.and_eq_true, decide_eq_true_eq] at hg
  rcases hg with ⟨h1, h2⟩ | ⟨h1, h2⟩
  · have hw : cls a.toNat = 2 ∨ cls a.toNat = 4 := by
      rcases e6 with ⟨h, _⟩ | ⟨h, _⟩ | ⟨_, h⟩
      · exact .inl h
      · exact .inr h
      · exact absurd h h1
    have hw' : cls c.toNat = 2 ∨ cls c.toNat = 4 := by
      rcases f6 with ⟨h, _⟩ | ⟨h, _⟩ | ⟨_, h⟩
      · exact .inl h
      · exact .inr h
      · exact absurd h h2
    rw [e1] at e2 ⊢
    rw [peL_wordE hw] at e2
    rw [List.cons_append, peL_wordE hw, ← List.cons_append]
    exact spL_more _ _ _ _ (spL_all _ _ e2) (word_word hw')
  · have z1 : x.text.data.toList = [58] := by rw [h1]
    have z2 : c = 61 := by
      rw [h2] at hc
      exact (List.cons.inj hc).1.symm
    subst z2
    rw [z1, List.cons_append, peL_signE (by decide), if_pos (by rw [hasP2]; exact .inl ⟨rfl, _, rfl⟩)]
    decide
end Go.Proofs.YtjadjmkbjolklaaGreatDoor
