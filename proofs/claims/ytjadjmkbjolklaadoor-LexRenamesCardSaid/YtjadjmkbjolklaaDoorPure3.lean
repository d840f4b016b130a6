/- Pieces of a text. -/
import Derived.Test.YtjadjmkbjolklaaDoorLexF
namespace Go.Proofs.YtjadjmkbjolklaaDoor
open Go Go.RowKit

structure Piece where
  kind : Int
  text : ByteArray
  at_ : Nat
  err : Int

def pieceAt (s : ByteArray) (k : Nat) : Piece :=
  { kind := (kindP (s.extract k (pieceEndP s k))).1
    text := if (kindP (s.extract k (pieceEndP s k))).1 = 5 then s.extract (k + 1) (pieceEndP s k) else s.extract k (pieceEndP s k)
    at_ := k
    err := (kindP (s.extract k (pieceEndP s k))).2 }

/-- The pieces from a place on, at which no gap stands. -/
def pcsFrom (s : ByteArray) : Nat → Nat → List Piece
  | 0, _ => []
  | f + 1, k => if k < s.size then pieceAt s k :: pcsFrom s f (pastP (inCls [1]) s (pieceEndP s k)) else []

def pcs (s : ByteArray) : List Piece := pcsFrom s s.size (pastP (inCls [1]) s 0)

theorem pastP_gt (p : UInt8 → Bool) (s : ByteArray) (k : Nat) (h : k < s.size) (hp : p s[k] = true) : k < pastP p s k := by
  rw [pastP_yes p s k h hp]
  exact Nat.lt_of_lt_of_le (Nat.lt_succ_self k) (pastP_ge p s (k + 1))

theorem getBang (s : ByteArray) (k : Nat) (h : k < s.size) : s[k]! = s[k] := by simp [h]

theorem pieceEndP_gt (s : ByteArray) (k : Nat) (h : k < s.size) : k < pieceEndP s k := by
  unfold pieceEndP
  rw [getBang s k h]
  split
  · rename_i hc
    refine pastP_gt _ s k h ?_
    unfold inCls
    simp only [List.any_cons, List.any_nil, Bool.or_false, Bool.or_eq_true, beq_iff_eq]
    omega
  · split
    · rename_i hc
      refine pastP_gt _ s k h ?_
      rw [bne_iff_ne]
      intro e
      rw [e] at hc
      revert hc
      decide
    · split <;> omega

theorem pieceEndP_le (s : ByteArray) (k : Nat) (h : k < s.size) : pieceEndP s k ≤ s.size := by
  unfold pieceEndP
  split
  · exact pastP_le _ _ _ (by omega)
  · split
    · exact pastP_le _ _ _ (by omega)
    · split
      · rename_i hc
        rcases hc with hc | hc
        · exact pre2_le hc
        · exact pre2_le hc
      · omega

theorem pcsFrom_end (s : ByteArray) (f k : Nat) (h : s.size ≤ k) : pcsFrom s f k = [] := by
  cases f
  · rfl
  · rw [pcsFrom, if_neg (by omega)]

theorem pcsFrom_step (s : ByteArray) (f k : Nat) (h : k < s.size) (hf : s.size - k ≤ f) :
    ∃ f', pcsFrom s f k = pieceAt s k :: pcsFrom s f' (pastP (inCls [1]) s (pieceEndP s k)) ∧ s.size - pastP (inCls [1]) s (pieceEndP s k) ≤ f' := by
  obtain ⟨f', rfl⟩ : ∃ f', f = f' + 1 := ⟨f - 1, by omega⟩
  refine ⟨f', by rw [pcsFrom, if_pos h], ?_⟩
  have h1 := pieceEndP_gt s k h
  have h2 := pastP_ge (inCls [1]) s (pieceEndP s k)
  omega
end Go.Proofs.YtjadjmkbjolklaaDoor
