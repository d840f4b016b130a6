/- Splices. -/
import Derived.Test.YtjadjmkbjolklaaDoorLexC
namespace Go.Proofs.YtjadjmkbjolklaaDoor
open Go Go.RowKit

structure Spl where
  from_ : Int
  to_ : Int
  text : ByteArray

/-- A slice value that holds splices, in a block below B. -/
def SplIn (W : World) (B : Nat) (v : Value) (l : List Spl) : Prop :=
  ∃ A c, v = .slice A l.length c ∧ ∀ i (x : Spl), l[i]? = some x → ∃ b off, A = some ⟨b, off, none⟩ ∧ b < B ∧
    W.cell? ⟨b, off + i * 3, none⟩ = some (.int .i64 x.from_) ∧ W.cell? ⟨b, off + i * 3 + 1, none⟩ = some (.int .i64 x.to_) ∧ W.cell? ⟨b, off + i * 3 + 2, none⟩ = some (.string x.text)

theorem SplIn.more {W : World} {B B' : Nat} {v : Value} {l : List Spl} (h : SplIn W B v l) (hB : B ≤ B') : SplIn W B' v l := by
  obtain ⟨A, c, rfl, hA⟩ := h
  refine ⟨A, c, rfl, fun i x hx => ?_⟩
  obtain ⟨b, off, rfl, h0, h1⟩ := hA i x hx
  exact ⟨b, off, rfl, by omega, h1⟩

theorem SplIn.below {W W' : World} {B : Nat} {v : Value} {l : List Spl} (h : SplIn W B v l) (hb : Below B W W') : SplIn W' B v l := by
  obtain ⟨A, c, rfl, hA⟩ := h
  refine ⟨A, c, rfl, fun i x hx => ?_⟩
  obtain ⟨b, off, rfl, hB, h1, h2, h3⟩ := hA i x hx
  exact ⟨b, off, rfl, hB, (hb.cell (p := ⟨b, _, none⟩) hB).trans h1, (hb.cell (p := ⟨b, _, none⟩) hB).trans h2, (hb.cell (p := ⟨b, _, none⟩) hB).trans h3⟩

/-- Are splices right for a text of n bytes, behind a place? -/
def splRight (n : Nat) : Int → List Spl → Bool
  | _, [] => true
  | last, x :: r => if x.from_ < last ∨ x.to_ < x.from_ ∨ (n : Int) < x.to_ then false else splRight n x.to_ r

/-- Has a splice a byte that is none of a text? -/
def splBad : List Spl → Bool
  | [] => false
  | x :: r => if txt x.text < x.text.size then true else splBad r

/-- The first error that splices have before the text after them is looked at. -/
def splErr (s : ByteArray) (l : List Spl) : Int :=
  if 40 < l.length then 5 else if splRight s.size 0 l = false then 3 else if splBad l = true then 2 else 0

theorem splRight_step (n : Nat) (last : Int) (l : List Spl) (k : Nat) (x : Spl) (h : l[k]? = some x) :
    splRight n last (l.drop k) = if x.from_ < last ∨ x.to_ < x.from_ ∨ (n : Int) < x.to_ then false else splRight n x.to_ (l.drop (k + 1)) := by
  obtain ⟨hk, rfl⟩ := List.getElem?_eq_some_iff.1 h
  rw [List.drop_eq_getElem_cons hk, splRight]

theorem splBad_step (l : List Spl) (k : Nat) (x : Spl) (h : l[k]? = some x) : splBad (l.drop k) = if txt x.text < x.text.size then true else splBad (l.drop (k + 1)) := by
  obtain ⟨hk, rfl⟩ := List.getElem?_eq_some_iff.1 h
  rw [List.drop_eq_getElem_cons hk, splBad]
end Go.Proofs.YtjadjmkbjolklaaDoor
