/- Tokens lie one behind the other. -/
import Derived.Test.YtjadjmkbjolklaaDoorLexN
namespace Go.Proofs.YtjadjmkbjolklaaDoor
open Go Go.RowKit

/-- Pieces lie within a text of n bytes from a place on, one behind the other. -/
def pcOrd (n : Nat) : Nat → List Piece → Prop
  | f, [] => f ≤ n
  | f, x :: r => f ≤ x.at_ ∧ x.at_ + x.text.size ≤ n ∧ pcOrd n (x.at_ + x.text.size) r

theorem pcOrd_mono (n : Nat) : ∀ (l : List Piece) (f g : Nat), g ≤ f → pcOrd n f l → pcOrd n g l
  | [], _, _, h, ho => Nat.le_trans h ho
  | _ :: _, _, _, h, ho => ⟨Nat.le_trans h ho.1, ho.2⟩

theorem pcOrd_filter (n : Nat) (p : Piece → Bool) : ∀ (l : List Piece) (f : Nat), pcOrd n f l → pcOrd n f (l.filter p)
  | [], f, ho => ho
  | x :: r, f, ho => by
    rw [List.filter_cons]
    split
    · exact ⟨ho.1, ho.2.1, pcOrd_filter n p r _ ho.2.2⟩
    · exact pcOrd_mono n _ _ _ (by have := ho.1; omega) (pcOrd_filter n p r _ ho.2.2)

theorem pcsFrom_ord (s : ByteArray) : ∀ (f k : Nat), k ≤ s.size → pcOrd s.size k (pcsFrom s f k)
  | 0, k, h => h
  | f + 1, k, h => by
    rw [pcsFrom]
    split
    · rename_i hk
      have h1 := pieceEndP_gt s k hk
      have h2 := pieceEndP_le s k hk
      have h3 := pastP_ge (inCls [1]) s (pieceEndP s k)
      have h4 := pastP_le (inCls [1]) s (pieceEndP s k) h2
      have hsz : k + (pieceAt s k).text.size ≤ pieceEndP s k := by
        unfold pieceAt
        dsimp only
        split
        · simp; omega
        · simp; omega
      exact ⟨Nat.le_refl _, by show k + _ ≤ _; omega, pcOrd_mono _ _ _ _ (by show k + _ ≤ _; omega) (pcsFrom_ord s f _ h4)⟩
    · exact h

theorem pcs_ord (s : ByteArray) : pcOrd s.size 0 (pcs s) :=
  pcOrd_mono _ _ _ _ (Nat.zero_le _) (pcsFrom_ord s _ _ (pastP_le _ _ _ (Nat.zero_le _)))

theorem tokAcc_filter : ∀ (l acc acc' : List Piece), tokAcc acc l = some acc' → acc' = acc ++ l.filter (fun p => !isNote p)
  | [], acc, acc', h => by
    simp only [tokAcc, Option.some.injEq] at h
    simp [h]
  | p :: r, acc, acc', h => by
    rw [tokAcc] at h
    rw [List.filter_cons]
    by_cases hn : isNote p = true
    · rw [if_pos hn] at h
      rw [if_neg (by simp [hn])]
      exact tokAcc_filter r acc acc' h
    · rw [if_neg hn] at h
      rw [if_pos (by simpa using hn)]
      split at h
      · cases h
      · have := tokAcc_filter r _ acc' h
        rw [this]
        simp

theorem tokRes_ok : ∀ (l acc : List Piece), (tokRes acc l).2.2 = 0 → tokAcc acc l = some (tokRes acc l).1 ∧ (tokRes acc l).2.1 = 0
  | [], acc, _ => ⟨rfl, rfl⟩
  | p :: r, acc, h => by
    rw [tokRes] at h ⊢
    rw [tokAcc]
    by_cases hn : isNote p = true
    · rw [if_pos hn] at h ⊢
      rw [if_pos hn]
      exact tokRes_ok r acc h
    · rw [if_neg hn] at h ⊢
      rw [if_neg hn]
      by_cases he : p.err ≠ 0
      · rw [if_pos he] at h
        exact absurd h he
      · rw [if_neg he] at h ⊢
        by_cases h9 : acc.length = 900
        · rw [if_pos h9] at h
          cases h
        · rw [if_neg h9] at h ⊢
          rw [if_neg (fun h1 => h1.elim he h9)]
          exact tokRes_ok r _ h

theorem tokAcc_900 : ∀ (l acc acc' : List Piece), acc.length ≤ 900 → tokAcc acc l = some acc' → acc'.length ≤ 900
  | [], acc, acc', h0, h => by
    simp only [tokAcc, Option.some.injEq] at h
    rw [← h]
    exact h0
  | p :: r, acc, acc', h0, h => by
    rw [tokAcc] at h
    split at h
    · exact tokAcc_900 r acc acc' h0 h
    · split at h
      · cases h
      · rename_i h2
        refine tokAcc_900 r _ acc' ?_ h
        have : acc.length ≠ 900 := fun e => h2 (.inr e)
        simp
        omega

theorem lexTokens_ok {s : ByteArray} (h : (lexTokens s).2.2 = 0) : (textErr s).2 = 0 ∧ tokAcc [] (pcs s) = some (lexTokens s).1 ∧ (lexTokens s).2.1 = 0 ∧ (lexTokens s).1.length ≤ 900 ∧ pcOrd s.size 0 (lexTokens s).1 := by
  unfold lexTokens at h ⊢
  split at h
  · rename_i h0
    rw [if_pos h0]
    have h1 := tokRes_ok (pcs s) [] h
    refine ⟨h0, h1.1, by simp [h1.2], tokAcc_900 _ _ _ (by simp) h1.1, ?_⟩
    show pcOrd s.size 0 (tokRes [] (pcs s)).1
    rw [tokAcc_filter _ _ _ h1.1, List.nil_append]
    exact pcOrd_filter _ _ _ _ (pcs_ord s)
  · rename_i h0
    exact absurd h h0

/-- The splices that make a name another one. -/
def renSpls (old name : ByteArray) : List Piece → List Spl
  | [] => []
  | t :: r => if t.text = old then ⟨t.at_, t.at_ + old.size, name⟩ :: renSpls old name r else renSpls old name r

theorem renSpls_right (n : Nat) (old name : ByteArray) : ∀ (l : List Piece) (f : Nat), pcOrd n f l → splRight n f (renSpls old name l) = true
  | [], f, _ => rfl
  | t :: r, f, h => by
    obtain ⟨h1, h2, h3⟩ := h
    rw [renSpls]
    split
    · rename_i ht
      rw [ht] at h2 h3
      rw [splRight, if_neg (by dsimp only; omega)]
      exact renSpls_right n old name r _ h3
    · exact renSpls_right n old name r f (pcOrd_mono _ _ _ _ (by omega) h3)

theorem renSpls_length (old name : ByteArray) : ∀ (l : List Piece), (renSpls old name l).length ≤ l.length
  | [] => Nat.le_refl _
  | t :: r => by
    have := renSpls_length old name r
    rw [renSpls]
    split
    · simp only [List.length_cons]; omega
    · simp only [List.length_cons]; omega

theorem renSpls_text (old name : ByteArray) : ∀ (l : List Piece), ∀ x ∈ renSpls old name l, x.text = name
  | [], x, h => by cases h
  | t :: r, x, h => by
    rw [renSpls] at h
    split at h
    · cases h with
      | head => rfl
      | tail _ h => exact renSpls_text old name r x h
    · exact renSpls_text old name r x h
end Go.Proofs.YtjadjmkbjolklaaDoor
