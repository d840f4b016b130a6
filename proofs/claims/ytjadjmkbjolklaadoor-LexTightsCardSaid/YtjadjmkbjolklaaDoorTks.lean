/- The tokens among pieces. -/
import Derived.Test.YtjadjmkbjolklaaDoorSegA
namespace Go.Proofs.YtjadjmkbjolklaaDoor
open Go

def tks (l : List Piece) : List Piece := l.filter (fun p => !isNote p)

theorem tks_append (l m : List Piece) : tks (l ++ m) = tks l ++ tks m := List.filter_append ..

theorem tks_up (d : Nat) (l : List Piece) : tks (l.map (Piece.up d)) = (tks l).map (Piece.up d) := by
  unfold tks
  rw [List.filter_map]
  rfl

theorem tokens_tks {s : ByteArray} (h : (lexTokens s).2.2 = 0) : (lexTokens s).1 = tks (pcs s) := by
  obtain ⟨_, h2, _, _, _⟩ := lexTokens_ok h
  rw [tokAcc_filter _ _ _ h2, List.nil_append]
  rfl

theorem filter_none {α : Type} {p : α → Bool} {l : List α} (h : ∀ x ∈ l, p x = false) : l.filter p = [] := by
  rw [List.filter_eq_nil_iff]
  intro x hx
  simp [h x hx]

theorem filter_all {α : Type} {p : α → Bool} {l : List α} (h : ∀ x ∈ l, p x = true) : l.filter p = l := List.filter_eq_self.2 h

end Go.Proofs.YtjadjmkbjolklaaDoor
