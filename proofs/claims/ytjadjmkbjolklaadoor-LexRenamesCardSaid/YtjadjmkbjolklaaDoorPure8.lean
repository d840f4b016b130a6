/- Where a line ends, and which place a line and a column have. -/
import Derived.Test.YtjadjmkbjolklaaDoorPure7
import Derived.Test.YtjadjmkbjolklaaDoorLexC
namespace Go.Proofs.YtjadjmkbjolklaaDoor
open Go

theorem pastP_all (p : UInt8 → Bool) (s : ByteArray) : ∀ (d k : Nat), s.size - k = d → (∀ j (h : j < s.size), k ≤ j → j < pastP p s k → p s[j] = true) ∧ (∀ h : pastP p s k < s.size, p s[pastP p s k] = false)
  | 0, k, hd => by
    rw [pastP_end p s k (by omega)]
    exact ⟨fun j _ h1 h2 => by omega, fun h => by omega⟩
  | d + 1, k, hd => by
    have hk : k < s.size := by omega
    cases hp : p s[k] with
    | false =>
      rw [pastP_no p s k hk hp]
      exact ⟨fun j _ h1 h2 => by omega, fun _ => hp⟩
    | true =>
      have ih := pastP_all p s d (k + 1) (by omega)
      rw [pastP_yes p s k hk hp]
      refine ⟨fun j h h1 h2 => ?_, ih.2⟩
      by_cases e : j = k
      · subst e
        exact hp
      · exact ih.1 j h (by omega) h2

theorem lineEndP_ge (s : ByteArray) (k : Nat) : k ≤ lineEndP s k := pastP_ge _ s k
theorem lineEndP_le (s : ByteArray) (k : Nat) (h : k ≤ s.size) : lineEndP s k ≤ s.size := pastP_le _ s k h

theorem lineEndP_in (s : ByteArray) (k j : Nat) (h : k ≤ s.size) (h1 : k ≤ j) (h2 : j < lineEndP s k) : lf s j = false := by
  have hl := lineEndP_le s k h
  have hj : j < s.size := by omega
  have := (pastP_all (fun c => c != 10) s _ k rfl).1 j hj h1 h2
  rw [lf_get s j hj]
  simpa using this

theorem lineEndP_lf (s : ByteArray) (k : Nat) (h : lineEndP s k < s.size) : lf s (lineEndP s k) = true := by
  have := (pastP_all (fun c => c != 10) s _ k rfl).2 h
  rw [lf_get s _ h]
  have t : (s[lineEndP s k] != 10) = false := this
  simpa using t

/-- The spots of a line. -/
theorem line_run (s : ByteArray) (f k : Nat) (h : f ≤ s.size) (h1 : f ≤ k) (h2 : k ≤ lineEndP s f) : lineP s k = lineP s f ∧ colP s k = colP s f + (k - f) := by
  have := spot_run s f (k - f) (fun j q1 q2 => lineEndP_in s f j h q1 (by omega))
  rwa [show f + (k - f) = k by omega] at this

theorem line_next (s : ByteArray) (f : Nat) (h : f ≤ s.size) (h1 : lineEndP s f < s.size) : lineP s (lineEndP s f + 1) = lineP s f + 1 ∧ colP s (lineEndP s f + 1) = 1 := by
  have h2 := (line_run s f (lineEndP s f) h (lineEndP_ge s f) (Nat.le_refl _)).1
  have h3 := lineEndP_lf s f h1
  rw [lineP, colP, h3, h2]
  simp

theorem line_mono {s : ByteArray} {k k' : Nat} (h : k ≤ k') : lineP s k ≤ lineP s k' := by
  rcases Nat.lt_or_eq_of_le h with h1 | rfl
  · have := spot_lt (s := s) h1
    omega
  · exact Nat.le_refl _

/-- What At says of a line and a column. -/
def AtSpec (s : ByteArray) (line col r e : Int) : Prop :=
  ((textErr s).2 ≠ 0 ∧ r = 0 ∧ e = (textErr s).2) ∨
  ((textErr s).2 = 0 ∧ e = 0 ∧ ∃ k : Nat, k ≤ s.size ∧ r = k ∧ (lineP s k : Int) = line ∧ (colP s k : Int) = col) ∨
  ((textErr s).2 = 0 ∧ e = 7 ∧ r = 0 ∧ ∀ k : Nat, k ≤ s.size → ¬((lineP s k : Int) = line ∧ (colP s k : Int) = col))

theorem AtSpec.one {s : ByteArray} {line col r e r' e' : Int} (h : AtSpec s line col r e) (h' : AtSpec s line col r' e') : r = r' ∧ e = e' := by
  rcases h with ⟨h1, rfl, rfl⟩ | ⟨h1, rfl, k, hk, rfl, h2, h3⟩ | ⟨h1, rfl, rfl, h2⟩
  · rcases h' with ⟨g1, rfl, rfl⟩ | ⟨g1, _⟩ | ⟨g1, _⟩
    · exact ⟨rfl, rfl⟩
    · exact absurd g1 h1
    · exact absurd g1 h1
  · rcases h' with ⟨g1, rfl, rfl⟩ | ⟨g1, rfl, k', gk, rfl, g2, g3⟩ | ⟨g1, rfl, rfl, g2⟩
    · exact absurd h1 g1
    · have := spot_inj (s := s) (k := k) (k' := k') (by omega) (by omega)
      exact ⟨by omega, rfl⟩
    · exact absurd ⟨h2, h3⟩ (g2 k hk)
  · rcases h' with ⟨g1, rfl, rfl⟩ | ⟨g1, rfl, k', gk, rfl, g2, g3⟩ | ⟨g1, rfl, rfl, g2⟩
    · exact absurd h1 g1
    · exact absurd ⟨g2, g3⟩ (h2 k' gk)
    · exact ⟨rfl, rfl⟩

/-- There is no such line. -/
theorem at_past {s : ByteArray} {f : Nat} {line col : Int} (ht : (textErr s).2 = 0) (h : f ≤ s.size) (he : lineEndP s f = s.size) (hl : (lineP s f : Int) < line) : AtSpec s line col 0 7 := by
  refine .inr (.inr ⟨ht, rfl, rfl, fun k hk => fun hh => ?_⟩)
  have h1 := (line_run s f s.size h h (by omega)).1
  have h2 := line_mono (s := s) hk
  omega

/-- There is no such column. -/
theorem at_wide {s : ByteArray} {f : Nat} {line col : Int} (ht : (textErr s).2 = 0) (h : f ≤ s.size) (hl : (lineP s f : Int) = line) (hc : colP s f = 1) (hw : (lineEndP s f : Int) - f < col - 1) : AtSpec s line col 0 7 := by
  refine .inr (.inr ⟨ht, rfl, rfl, fun k hk => fun hh => ?_⟩)
  by_cases h1 : k < f
  · have h2 := spot_lt (s := s) h1
    have h3 := colP_pos s k
    omega
  · by_cases h2 : k ≤ lineEndP s f
    · have h3 := line_run s f k h (by omega) h2
      omega
    · have h3 := line_next s f h (by omega)
      have h4 := line_mono (s := s) (k := lineEndP s f + 1) (k' := k) (by omega)
      omega

/-- There it is. -/
theorem at_there {s : ByteArray} {f : Nat} {line col : Int} (ht : (textErr s).2 = 0) (h : f ≤ s.size) (hl : (lineP s f : Int) = line) (hc : colP s f = 1) (h1 : 1 ≤ col) (hw : col - 1 ≤ (lineEndP s f : Int) - f) : AtSpec s line col (f + col - 1) 0 := by
  have hle := lineEndP_le s f h
  have hr := line_run s f (f + col - 1).toNat h (by omega) (by omega)
  exact .inr (.inl ⟨ht, rfl, (f + col - 1).toNat, by omega, by omega, by omega, by omega⟩)

theorem at_small {s : ByteArray} {line col : Int} (ht : (textErr s).2 = 0) (h : line < 1 ∨ col < 1) : AtSpec s line col 0 7 := by
  refine .inr (.inr ⟨ht, rfl, rfl, fun k _ => fun hh => ?_⟩)
  have h1 := lineP_pos s k
  have h2 := colP_pos s k
  omega
end Go.Proofs.YtjadjmkbjolklaaDoor
