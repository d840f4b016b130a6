/- A text as pieces, each with the gap behind it. -/
import Derived.Test.YtjadjmkbjolklaaGreatDoorSegA
namespace Go.Proofs.YtjadjmkbjolklaaGreatDoor
open Go

/-- Pieces, each with the gap behind it, and what follows. -/
def rend : List (List UInt8 × List UInt8) → List UInt8 → List UInt8
  | [], R => R
  | (p, g) :: r, R => p ++ (g ++ rend r R)

/-- Nothing, or what begins with no gap. -/
def headOk (R : List UInt8) : Prop := R = [] ∨ ∃ c q, R = c :: q ∧ inCls [1] c = false

/-- Each piece is the first one of all that follows from it on; gaps are gaps. -/
def good : List (List UInt8 × List UInt8) → List UInt8 → Prop
  | [], R => headOk R
  | (p, g) :: r, R => (∃ c q, p = c :: q ∧ inCls [1] c = false) ∧ (∀ c ∈ g, inCls [1] c = true) ∧ peL (p ++ (g ++ rend r R)) = p.length ∧ good r R

/-- The pieces, from a place on. -/
def segP : Nat → List (List UInt8 × List UInt8) → List Piece
  | _, [] => []
  | k, (p, g) :: r => pcOf k p :: segP (k + p.length + g.length) r

def segLen : List (List UInt8 × List UInt8) → Nat
  | [] => 0
  | (p, g) :: r => p.length + g.length + segLen r

theorem rend_length : ∀ (l : List (List UInt8 × List UInt8)) (R : List UInt8), (rend l R).length = segLen l + R.length
  | [], R => by simp [rend, segLen]
  | (p, g) :: r, R => by
    rw [rend, segLen, List.length_append, List.length_append, rend_length r R]
    omega

theorem good_head : ∀ {l : List (List UInt8 × List UInt8)} {R : List UInt8}, good l R → headOk (rend l R)
  | [], R, h => h
  | (p, g) :: r, R, h => by
    obtain ⟨⟨c, q, rfl, hc⟩, _⟩ := h
    exact .inr ⟨c, _, rfl, hc⟩

theorem spL_exact (p : UInt8 → Bool) : ∀ (g R : List UInt8), (∀ c ∈ g, p c = true) → (R = [] ∨ ∃ c q, R = c :: q ∧ p c = false) → spL p (g ++ R) = g.length
  | [], R, _, h => by
    rw [List.nil_append]
    rcases h with rfl | ⟨c, q, rfl, hc⟩
    · rfl
    · unfold spL
      rw [List.takeWhile_cons_of_neg (by simp [hc])]
  | c :: g, R, hg, h => by
    have ih := spL_exact p g R (fun d hd => hg d (.tail _ hd)) h
    unfold spL at ih ⊢
    rw [List.cons_append, List.takeWhile_cons_of_pos (hg c (.head _)), List.length_cons, ih, List.length_cons]

theorem pcsL_seg : ∀ (l : List (List UInt8 × List UInt8)) (R : List UInt8) (f k : Nat), good l R → (rend l R).length ≤ f → pcsL f k (rend l R) = segP k l ++ pcsL f (k + segLen l) R
  | [], R, f, k, _, _ => rfl
  | (p, g) :: r, R, f, k, h, hf => by
    obtain ⟨⟨c, q, hp, hc⟩, hg, hpe, hr⟩ := h
    have hpl : 0 < p.length := by rw [hp]; simp
    have hne : p ++ (g ++ rend r R) ≠ [] := by rw [hp]; simp
    rw [rend, List.length_append, List.length_append] at hf
    match f, hf with
    | 0, hf => omega
    | f + 1, hf =>
      have hRl : (rend r R).length = segLen r + R.length := rend_length r R
      rw [rend, pcsL_cons f k hne, hpe, List.take_left', List.drop_left', pcsG, spL_exact _ g _ hg (good_head hr), List.drop_left', pcsL_seg r R f _ hr (by omega)]
      · rw [segP, segLen, List.cons_append, show k + p.length + g.length + segLen r = k + (p.length + g.length + segLen r) by omega, pcsL_fuel f (f + 1) _ R (by omega) (by omega)]
      · rfl
      · rfl
      · rfl

theorem pcsG_seg (g : List UInt8) (l : List (List UInt8 × List UInt8)) (R : List UInt8) (f k : Nat) (hg : ∀ c ∈ g, inCls [1] c = true) (h : good l R) (hf : (g ++ rend l R).length ≤ f) :
    pcsG f k (g ++ rend l R) = segP (k + g.length) l ++ pcsL f (k + g.length + segLen l) R := by
  rw [List.length_append] at hf
  rw [pcsG, spL_exact _ g _ hg (good_head h), List.drop_left' rfl, pcsL_seg l R f _ h (by omega)]

theorem takeW_all (p : UInt8 → Bool) : ∀ (L : List UInt8), ∀ c ∈ L.takeWhile p, p c = true
  | [], c, h => by cases h
  | d :: L, c, h => by
    by_cases hd : p d = true
    · rw [List.takeWhile_cons_of_pos hd] at h
      rcases List.mem_cons.1 h with rfl | h
      · exact hd
      · exact takeW_all p L c h
    · rw [List.takeWhile_cons_of_neg hd] at h
      cases h

theorem dropW_head (p : UInt8 → Bool) : ∀ (L : List UInt8), L.dropWhile p = [] ∨ ∃ c q, L.dropWhile p = c :: q ∧ p c = false
  | [] => .inl rfl
  | d :: L => by
    by_cases hd : p d = true
    · rw [List.dropWhile_cons_of_pos hd]
      exact dropW_head p L
    · rw [List.dropWhile_cons_of_neg hd]
      exact .inr ⟨d, L, rfl, by simpa using hd⟩

/-- Each text that begins with no gap is pieces with gaps. -/
theorem seg_of : ∀ (n : Nat) (L : List UInt8), L.length ≤ n → headOk L → ∃ l, good l [] ∧ rend l [] = L
  | 0, L, h, _ => ⟨[], .inl rfl, (List.eq_nil_of_length_eq_zero (by omega)).symm⟩
  | n + 1, L, h, hh => by
    rcases hh with rfl | ⟨c, q, rfl, hc⟩
    · exact ⟨[], .inl rfl, rfl⟩
    · have hp0 := peL_pos (L := c :: q) (by simp)
      have hle := peL_le (c :: q)
      obtain ⟨l, h1, h2⟩ := seg_of n (((c :: q).drop (peL (c :: q))).dropWhile (inCls [1])) (by
        have := (List.dropWhile_sublist (inCls [1]) (l := (c :: q).drop (peL (c :: q)))).length_le
        rw [List.length_drop] at this
        omega) (dropW_head _ _)
      have hE : (c :: q).take (peL (c :: q)) ++ (((c :: q).drop (peL (c :: q))).takeWhile (inCls [1]) ++ rend l []) = c :: q := by
        rw [h2, List.takeWhile_append_dropWhile, List.take_append_drop]
      refine ⟨((c :: q).take (peL (c :: q)), ((c :: q).drop (peL (c :: q))).takeWhile (inCls [1])) :: l, ⟨?_, takeW_all _ _, ?_, h1⟩, hE⟩
      · refine ⟨c, q.take (peL (c :: q) - 1), ?_, hc⟩
        obtain ⟨m, hm⟩ : ∃ m, peL (c :: q) = m + 1 := ⟨peL (c :: q) - 1, by omega⟩
        rw [hm, List.take_succ_cons]
        rfl
      · rw [hE, List.length_take]
        omega

/-- A text whose first piece ends behind p has p as its first piece when it ends there. -/
theorem peL_self {p R : List UInt8} (h : peL (p ++ R) = p.length) : peL p = p.length := by
  cases p with
  | nil => rfl
  | cons c p =>
    have hsp : ∀ q : UInt8 → Bool, spL q ((c :: p) ++ R) = (c :: p).length → spL q (c :: p) = (c :: p).length := by
      intro q hq
      unfold spL at hq ⊢
      have h1 : ∀ (A : List UInt8), (A ++ R).takeWhile q = A ++ [] ∨ A.length ≤ ((A ++ R).takeWhile q).length → (A.takeWhile q).length = A.length := by
        intro A
        induction A with
        | nil => intro _; rfl
        | cons a A ih =>
          intro hA
          rw [List.cons_append] at hA
          by_cases ha : q a = true
          · rw [List.takeWhile_cons_of_pos ha] at hA ⊢
            rw [List.length_cons, ih (.inr ?_), List.length_cons]
            rcases hA with hA | hA
            · rw [List.append_nil] at hA
              rw [List.cons.inj hA |>.2]
              exact Nat.le_refl _
            · simpa using hA
          · rw [List.takeWhile_cons_of_neg ha] at hA
            simp at hA
      exact h1 (c :: p) (.inr (by omega))
    rw [List.cons_append] at h hsp
    unfold peL at h ⊢
    simp only [] at h ⊢
    split
    · rename_i h1
      rw [if_pos h1] at h
      exact hsp _ h
    · rename_i h1
      rw [if_neg h1] at h
      split
      · rename_i h2
        rw [if_pos h2] at h
        exact hsp _ h
      · rename_i h2
        rw [if_neg h2] at h
        cases p with
        | nil => simp [Lib.hasPrefix, List.isPrefixOf]
        | cons d p =>
          have hx : ∀ a b : UInt8, Lib.hasPrefix (c :: d :: p ++ R) [a, b] = Lib.hasPrefix (c :: d :: p) [a, b] := by
            intro a b
            simp [Lib.hasPrefix, List.isPrefixOf]
          rw [← List.cons_append, hx, hx] at h
          exact h
end Go.Proofs.YtjadjmkbjolklaaGreatDoor
