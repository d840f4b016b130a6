/- The contracts of the reference's Tokens, Notes, and of LexTokens. -/
import Derived.Test.YtjadjmkbjolklaaGreatDoorTokF
import Derived.Test.YtjadjmkbjolklaaGreatDoorAwakeB
namespace Go.Proofs.YtjadjmkbjolklaaGreatDoor
open Go.RowKit Go.Maps

theorem sameP_refl (l : List Piece) : sameP l l = true := (sameP_iff l l).2 rfl

theorem lexTokens_len (s : ByteArray) : (lexTokens s).1.length ≤ 140737488355328 := by
  by_cases h : (lexTokens s).2.2 = 0
  · have := (lexTokens_ok h).2.2.2.1
    omega
  · unfold lexTokens at h ⊢
    split at h
    · rename_i h0
      rw [if_pos h0]
      have hres : ∀ (l acc : List Piece), (tokRes acc l).2.2 ≠ 0 → (tokRes acc l).1 = [] := by
        intro l
        induction l with
        | nil => intro acc h; exact absurd rfl h
        | cons p r ih =>
          intro acc h
          rw [tokRes] at h ⊢
          split at h
          · rename_i h1
            rw [if_pos h1]
            exact ih _ h
          · rename_i h1
            rw [if_neg h1]
            split at h
            · rename_i h2
              rw [if_pos h2]
            · rename_i h2
              rw [if_neg h2]
              split at h
              · rename_i h3
                rw [if_pos h3]
              · rename_i h3
                rw [if_neg h3]
                exact ih _ h
      show (tokRes [] (pcs s)).1.length ≤ _
      rw [hres _ _ h]
      simp
    · rename_i h0
      rw [if_neg h0]
      simp

end Go.Proofs.YtjadjmkbjolklaaGreatDoor
