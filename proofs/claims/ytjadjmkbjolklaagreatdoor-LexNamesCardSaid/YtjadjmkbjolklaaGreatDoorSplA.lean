/- Where bytes stand after splices, and what leads back. -/
import Derived.Test.YtjadjmkbjolklaaGreatDoorLow
namespace Go.Proofs.YtjadjmkbjolklaaGreatDoor
open Go Go.RowKit

/-- By how much a splice makes a text longer. -/
def grow1 (s : ByteArray) (x : Spl) : Int := (x.text.size : Int) - (s.extract x.from_.toNat x.to_.toNat).size

/-- Where the byte at a place stands behind splices, the text having grown by g before them; or that it is taken out. -/
def mvP (s : ByteArray) (at_ : Int) : Int → List Spl → Int × Int
  | g, [] => (at_ + g, 0)
  | g, x :: r => if x.from_ ≤ at_ ∧ at_ < x.to_ then (0, 7) else mvP s at_ (if x.to_ ≤ at_ then g + grow1 s x else g) r

theorem mvP_step (s : ByteArray) (at_ g : Int) (l : List Spl) (k : Nat) (x : Spl) (h : l[k]? = some x) :
    mvP s at_ g (l.drop k) = if x.from_ ≤ at_ ∧ at_ < x.to_ then (0, 7) else mvP s at_ (if x.to_ ≤ at_ then g + grow1 s x else g) (l.drop (k + 1)) := by
  obtain ⟨hk, rfl⟩ := List.getElem?_eq_some_iff.1 h
  rw [List.drop_eq_getElem_cons hk, mvP]

/-- What lex.Moved returns. -/
def movedRes (s : ByteArray) (l : List Spl) (at_ : Int) : Int × Int :=
  if (planAnyRes s l).2 ≠ 0 then (0, (planAnyRes s l).2) else if at_ < 0 ∨ (s.size : Int) < at_ then (0, 3) else mvP s at_ 0 l

/-- What leads back, the text having grown by g before. -/
def backP (s : ByteArray) : Int → List Spl → List Spl
  | _, [] => []
  | g, x :: r => ⟨x.from_ + g, x.from_ + g + x.text.size, s.extract x.from_.toNat x.to_.toNat⟩ :: backP s (g + grow1 s x) r

theorem backP_step (s : ByteArray) (g : Int) (l : List Spl) (k : Nat) (x : Spl) (h : l[k]? = some x) :
    backP s g (l.drop k) = ⟨x.from_ + g, x.from_ + g + x.text.size, s.extract x.from_.toNat x.to_.toNat⟩ :: backP s (g + grow1 s x) (l.drop (k + 1)) := by
  obtain ⟨hk, rfl⟩ := List.getElem?_eq_some_iff.1 h
  rw [List.drop_eq_getElem_cons hk, backP]

theorem backP_chgs (s : ByteArray) : ∀ (g : Int) (l : List Spl), (chgs s g l).map (fun c => (⟨c.at_, c.at_ + c.text.size, c.out⟩ : Spl)) = backP s g l
  | g, [] => rfl
  | g, x :: r => by
    rw [chgs, List.map_cons, backP_chgs s _ r, backP]
    rfl

/-- What lex.Undo returns. -/
def undoRes (s : ByteArray) (l : List Spl) : List Spl × Int := if (planAnyRes s l).2 ≠ 0 then ([], (planAnyRes s l).2) else (backP s 0 l, 0)

/-- The changes of splices, one by one. -/
theorem chgs_get (s : ByteArray) : ∀ (l : List Spl) (g : Int) (k : Nat) (c : Chg), (chgs s g l)[k]? = some c → ∃ x, l[k]? = some x ∧ c.from_ = x.from_ ∧ c.to_ = x.to_ ∧ c.text = x.text ∧ c.out = s.extract x.from_.toNat x.to_.toNat
  | [], g, k, c, h => by simp [chgs] at h
  | x :: r, g, 0, c, h => by
    simp only [chgs, List.getElem?_cons_zero, Option.some.injEq] at h
    subst h
    exact ⟨x, rfl, rfl, rfl, rfl, rfl⟩
  | x :: r, g, k + 1, c, h => by
    simp only [chgs, List.getElem?_cons_succ] at h
    exact chgs_get s r _ k c h
end Go.Proofs.YtjadjmkbjolklaaGreatDoor
