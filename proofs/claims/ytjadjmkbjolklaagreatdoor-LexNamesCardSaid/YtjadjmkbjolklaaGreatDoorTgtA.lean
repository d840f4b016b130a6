/- Tokens that come in, whose places may be anything; the shortest text with tokens, and brackets that belong together: plain answers. -/
import Derived.Test.YtjadjmkbjolklaaGreatDoorLow
namespace Go.Proofs.YtjadjmkbjolklaaGreatDoor
open Go Go.RowKit

/-- A token whose place may be anything. -/
structure Tk where
  kind : Int
  text : ByteArray
  at_ : Int

instance : Inhabited Tk := ⟨⟨0, ⟨#[]⟩, 0⟩⟩

/-- A slice value that holds tokens, in a block below B. -/
def TkIn (W : World) (B : Nat) (v : Value) (l : List Tk) : Prop :=
  ∃ A c, v = .slice A l.length c ∧ ∀ i (x : Tk), l[i]? = some x → ∃ b off, A = some ⟨b, off, none⟩ ∧ b < B ∧
    W.cell? ⟨b, off + i * 3, none⟩ = some (.int .u8 x.kind) ∧ W.cell? ⟨b, off + i * 3 + 1, none⟩ = some (.string x.text) ∧ W.cell? ⟨b, off + i * 3 + 2, none⟩ = some (.int .i64 x.at_)

theorem TkIn.more {W : World} {B B' : Nat} {v : Value} {l : List Tk} (h : TkIn W B v l) (hB : B ≤ B') : TkIn W B' v l := by
  obtain ⟨A, c, rfl, hA⟩ := h
  refine ⟨A, c, rfl, fun i x hx => ?_⟩
  obtain ⟨b, off, rfl, h0, h1⟩ := hA i x hx
  exact ⟨b, off, rfl, by omega, h1⟩

theorem TkIn.below {W W' : World} {B : Nat} {v : Value} {l : List Tk} (h : TkIn W B v l) (hb : Below B W W') : TkIn W' B v l := by
  obtain ⟨A, c, rfl, hA⟩ := h
  refine ⟨A, c, rfl, fun i x hx => ?_⟩
  obtain ⟨b, off, rfl, hB, h1, h2, h3⟩ := hA i x hx
  exact ⟨b, off, rfl, hB, (hb.cell (p := ⟨b, _, none⟩) hB).trans h1, (hb.cell (p := ⟨b, _, none⟩) hB).trans h2, (hb.cell (p := ⟨b, _, none⟩) hB).trans h3⟩

/-- The cells of tokens. -/
def Tk.cells3 (x : Tk) : List Value := [.int .u8 x.kind, .string x.text, .int .i64 x.at_]
def tkCells (l : List Tk) : List Value := l.flatMap Tk.cells3

theorem tkCells_length (l : List Tk) : (tkCells l).length = l.length * 3 := by
  induction l with
  | nil => rfl
  | cons x r ih =>
    show (x.cells3 ++ tkCells r).length = _
    rw [List.length_append, ih, List.length_cons]
    show 3 + _ = _
    omega

theorem tkIn_of_own {W : World} {n₀ : Nat} {v : Value} {l : List Tk} (h : W.ownsRow n₀ 35 3 v l.length (tkCells l)) : TkIn W W.heap.size v l := by
  obtain ⟨A, c, rfl, hA⟩ := row_at h
  refine ⟨A, c, rfl, fun i x hx => ?_⟩
  have hg := fun j u => cells_get Tk.cells3 3 (fun _ => rfl) l i x hx j u
  have hne : tkCells l ≠ [] := by
    intro e
    have := hg 0 _ rfl
    rw [show l.flatMap Tk.cells3 = tkCells l from rfl, e] at this
    simp at this
  obtain ⟨b, rfl, hb, hc⟩ := hA hne
  refine ⟨b, 0, rfl, hb, ?_, ?_, ?_⟩
  · have := hc _ _ (hg 0 _ rfl); simpa using this
  · have := hc _ _ (hg 1 _ rfl); simpa using this
  · have := hc _ _ (hg 2 _ rfl); simpa using this

/-- A token of a text, as it comes in. -/
def Piece.tk (x : Piece) : Tk := ⟨x.kind, x.text, x.at_⟩

theorem tkIn_of_tok {W : World} {B : Nat} {v : Value} {l : List Piece} (h : TokIn W B v l) : TkIn W B v (l.map Piece.tk) := by
  obtain ⟨A, c, rfl, hA⟩ := h
  refine ⟨A, c, by simp, fun i x hx => ?_⟩
  rw [List.getElem?_map, Option.map_eq_some_iff] at hx
  obtain ⟨y, hy, rfl⟩ := hx
  exact hA i y hy

/-- Is a token right, as it stands alone? -/
def rightT (x : Tk) : Bool := isRightP x.kind x.text

/-- The error of a list of tokens. -/
def listErr (l : List Tk) : Int := if 900 < l.length then 5 else if l.all rightT = true then 0 else 2

/-- Does a blank stand between two tokens? -/
def glue (x y : Tk) : Bool := (decide (x.kind ≠ 4) && decide (y.kind ≠ 4)) || (decide (x.text = ⟨#[58]⟩) && decide (y.text = ⟨#[61]⟩))

/-- What stands before a token. -/
def sepAt (l : List Tk) (k : Nat) : List UInt8 := if 0 < k ∧ glue l[k - 1]! l[k]! = true then [32] else []

/-- The shortest text with the first k tokens. -/
def tgtAt (l : List Tk) : Nat → List UInt8
  | 0 => []
  | k + 1 => tgtAt l k ++ (sepAt l k ++ l[k]!.text.data.toList)

theorem tgtAt_le (l : List Tk) : ∀ {j k : Nat}, j ≤ k → (tgtAt l j).length ≤ (tgtAt l k).length
  | j, 0, h => by
    obtain rfl : j = 0 := by omega
    exact Nat.le_refl _
  | j, k + 1, h => by
    rcases Nat.lt_or_ge j (k + 1) with h1 | h1
    · have := tgtAt_le l (j := j) (k := k) (by omega)
      rw [tgtAt, List.length_append]
      omega
    · obtain rfl : j = k + 1 := by omega
      exact Nat.le_refl _

theorem tgtAt_len {l : List Tk} {n : Nat} (h : ∀ x ∈ l, x.text.size ≤ n) : ∀ k ≤ l.length, (tgtAt l k).length ≤ k * (n + 1)
  | 0, _ => by simp [tgtAt]
  | k + 1, hk => by
    have ih := tgtAt_len h k (by omega)
    have hx : l[k]! = l[k] := getElem!_pos l k (by omega)
    have h1 := h _ (List.getElem_mem (show k < l.length by omega))
    have h2 : (sepAt l k).length ≤ 1 := by
      unfold sepAt
      split <;> simp
    have h3 : l[k].text.data.toList.length = l[k].text.size := by simp
    rw [tgtAt, List.length_append, List.length_append, hx, Nat.add_mul]
    omega

/-- What Tight answers: the text, and the error. -/
def tightRes (l : List Tk) : List UInt8 × Int :=
  if listErr l ≠ 0 then ([], listErr l) else if 2500 < (tgtAt l l.length).length then ([], 5) else (tgtAt l l.length, 0)

/-- The bracket that one closes. -/
def mateOf (t : ByteArray) : Option ByteArray := if t = ⟨#[41]⟩ then some ⟨#[40]⟩ else if t = ⟨#[125]⟩ then some ⟨#[123]⟩ else none
def isOpn (t : ByteArray) : Bool := decide (t = ⟨#[40]⟩) || decide (t = ⟨#[123]⟩)

/-- One more token: the pairs up to it, and the brackets that are open. -/
def prsStep (l : List Tk) (k : Nat) (ps : List Int) (op : List Nat) : Option (List Int × List Nat) :=
  if isOpn l[k]!.text = true then some (ps ++ [-1], op ++ [k])
  else match mateOf l[k]!.text with
    | none => some (ps ++ [-1], op)
    | some m => match op.getLast? with
      | none => none
      | some j => if l[j]!.text = m then some (((ps ++ [-1]).set k j).set j k, op.dropLast) else none

/-- What Pairs answers from a token on: the pairs, the number of a token, and the error. -/
def prsGo (l : List Tk) : Nat → Nat → List Int → List Nat → List Int × Int × Int
  | 0, _, ps, op => match op with
    | [] => (ps, 0, 0)
    | j :: _ => ([], j, 4)
  | f + 1, k, ps, op => match prsStep l k ps op with
    | none => ([], k, 4)
    | some (ps', op') => prsGo l f (k + 1) ps' op'

/-- What Pairs answers. -/
def pairsRes (l : List Tk) : List Int × Int × Int := if listErr l ≠ 0 then ([], 0, listErr l) else prsGo l l.length 0 [] []

theorem prsStep_len {l : List Tk} {k : Nat} {ps ps' : List Int} {op op' : List Nat} (h : prsStep l k ps op = some (ps', op')) (h1 : ps.length = k) (h2 : ∀ j ∈ op, j < k) (h3 : op.length ≤ k) :
    ps'.length = k + 1 ∧ (∀ j ∈ op', j < k + 1) ∧ op'.length ≤ k + 1 := by
  unfold prsStep at h
  split at h
  · cases h
    refine ⟨by simp [h1], fun j hj => ?_, by simp; omega⟩
    rcases List.mem_append.1 hj with h | h
    · have := h2 j h; omega
    · simp at h; omega
  · split at h
    · cases h
      exact ⟨by simp [h1], fun j hj => by have := h2 j hj; omega, by omega⟩
    · split at h
      · cases h
      · split at h
        · cases h
          refine ⟨by simp [h1], fun j hj => ?_, by simp; omega⟩
          have := h2 j ((List.dropLast_sublist op).mem hj)
          omega
        · cases h
end Go.Proofs.YtjadjmkbjolklaaGreatDoor
