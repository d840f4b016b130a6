/- Changes: splices that know what they do. -/
import Derived.Test.YtjadjmkbjolklaaDoorPure4
namespace Go.Proofs.YtjadjmkbjolklaaDoor
open Go Go.RowKit

structure Chg where
  from_ : Int
  to_ : Int
  text : ByteArray
  out : ByteArray
  at_ : Int

def Chg.cells5 (x : Chg) : List Value := [.int .i64 x.from_, .int .i64 x.to_, .string x.text, .string x.out, .int .i64 x.at_]
def chgCells (l : List Chg) : List Value := l.flatMap Chg.cells5
theorem chgCells_append (l l' : List Chg) : chgCells (l ++ l') = chgCells l ++ chgCells l' := by simp [chgCells]

/-- What splices do to a text, the text having grown by g before. -/
def chgs (s : ByteArray) : Int → List Spl → List Chg
  | _, [] => []
  | g, x :: r => ⟨x.from_, x.to_, x.text, s.extract x.from_.toNat x.to_.toNat, x.from_ + g⟩ :: chgs s (g + ((x.text.size : Int) - (s.extract x.from_.toNat x.to_.toNat).size)) r

/-- By how much the text has grown behind them. -/
def grown (s : ByteArray) : Int → List Spl → Int
  | g, [] => g
  | g, x :: r => grown s (g + ((x.text.size : Int) - (s.extract x.from_.toNat x.to_.toNat).size)) r

theorem chgs_length (s : ByteArray) : ∀ (g : Int) (l : List Spl), (chgs s g l).length = l.length
  | _, [] => rfl
  | g, x :: r => by rw [chgs, List.length_cons, List.length_cons, chgs_length s _ r]

theorem chgs_step (s : ByteArray) (g : Int) (l : List Spl) (k : Nat) (x : Spl) (h : l[k]? = some x) :
    chgs s g (l.drop k) = ⟨x.from_, x.to_, x.text, s.extract x.from_.toNat x.to_.toNat, x.from_ + g⟩ :: chgs s (g + ((x.text.size : Int) - (s.extract x.from_.toNat x.to_.toNat).size)) (l.drop (k + 1)) := by
  obtain ⟨hk, rfl⟩ := List.getElem?_eq_some_iff.1 h
  rw [List.drop_eq_getElem_cons hk, chgs]

theorem grown_step (s : ByteArray) (g : Int) (l : List Spl) (k : Nat) (x : Spl) (h : l[k]? = some x) :
    grown s g (l.drop k) = grown s (g + ((x.text.size : Int) - (s.extract x.from_.toNat x.to_.toNat).size)) (l.drop (k + 1)) := by
  obtain ⟨hk, rfl⟩ := List.getElem?_eq_some_iff.1 h
  rw [List.drop_eq_getElem_cons hk, grown]

/-- What lex.plan returns. -/
def planRes (s : ByteArray) (l : List Spl) : List Chg × Int := if 2500 < (s.size : Int) + grown s 0 l then ([], 5) else (chgs s 0 l, 0)

/-- Splices each of which lies within a text of n bytes. -/
def splIn (n : Nat) (l : List Spl) : Prop := ∀ x ∈ l, 0 ≤ x.from_ ∧ x.from_ ≤ x.to_ ∧ x.to_ ≤ n ∧ x.text.size ≤ 140737488355328

theorem splRight_in (n : Nat) : ∀ (l : List Spl) (last : Int), 0 ≤ last → splRight n last l = true → (∀ x ∈ l, x.text.size ≤ 140737488355328) → splIn n l
  | [], _, _, _, _ => fun x hx => by cases hx
  | y :: r, last, h0, h, ht => by
    rw [splRight] at h
    split at h
    · cases h
    · intro x hx
      cases hx with
      | head => exact ⟨by omega, by omega, by omega, ht _ (.head _)⟩
      | tail _ hx => exact splRight_in n r y.to_ (by omega) h (fun z hz => ht z (.tail _ hz)) x hx
end Go.Proofs.YtjadjmkbjolklaaDoor
