/- The shortest text with tokens as pieces with gaps; its tokens. -/
import Derived.Test.YtjadjmkbjolklaaDoorTgtB
namespace Go.Proofs.YtjadjmkbjolklaaDoor
open Go

/-- The gap behind a token that others follow. -/
def gapTo (x : Tk) : List Tk → List UInt8
  | [] => []
  | y :: _ => if glue x y = true then [32] else []

/-- Tokens as pieces, where others follow. -/
def segsX : List Tk → List Tk → List (List UInt8 × List UInt8)
  | [], _ => []
  | x :: r, m => (x.text.data.toList, gapTo x (r ++ m)) :: segsX r m

theorem segsX_append (m : List Tk) : ∀ (l l' : List Tk) (R : List UInt8), rend (segsX (l ++ l') m) R = rend (segsX l (l' ++ m)) (rend (segsX l' m) R)
  | [], l', R => rfl
  | x :: r, l', R => by
    rw [List.cons_append, segsX, segsX, rend, rend, segsX_append m r l' R, List.append_assoc]

theorem segP_append : ∀ (l l' : List Tk) (m : List Tk) (k : Nat), segP k (segsX (l ++ l') m) = segP k (segsX l (l' ++ m)) ++ segP (k + segLen (segsX l (l' ++ m))) (segsX l' m)
  | [], l', m, k => rfl
  | x :: r, l', m, k => by
    rw [List.cons_append, segsX, segsX, segP, segP, segP_append r l' m, segLen, List.append_assoc, List.cons_append]
    congr 3
    omega

/-- What follows begins as the next token does. -/
def headIs (m : List Tk) (R : List UInt8) : Prop :=
  match m with
  | [] => R = []
  | y :: _ => rightT y = true ∧ ∃ c q R', y.text.data.toList = c :: q ∧ R = c :: R'

theorem headIs_rend {l m : List Tk} {R : List UInt8} (hl : ∀ x ∈ l, rightT x = true) (hm : headIs m R) : headIs (l ++ m) (rend (segsX l m) R) := by
  cases l with
  | nil => exact hm
  | cons x r =>
    refine ⟨hl x (.head _), ?_⟩
    obtain ⟨c, q, h1, _⟩ := right_head (hl x (.head _))
    exact ⟨c, q, _, h1, by rw [segsX, rend, h1]; rfl⟩

theorem good_segs : ∀ (l m : List Tk) (R : List UInt8), (∀ x ∈ l, rightT x = true) → headIs m R → good (segsX l m) R
  | [], m, R, _, hm => by
    cases m with
    | nil => exact .inl hm
    | cons y m =>
      obtain ⟨hy, c, q, R', h1, h2⟩ := hm
      obtain ⟨c', q', h3, h4⟩ := right_head hy
      rw [h1] at h3
      cases h3
      exact .inr ⟨c, R', h2, h4⟩
  | x :: r, m, R, hl, hm => by
    have hx := hl x (.head _)
    have hr : ∀ y ∈ r, rightT y = true := fun y hy => hl y (.tail _ hy)
    have ih := good_segs r m R hr hm
    have hh := headIs_rend hr hm
    rw [segsX]
    refine ⟨right_head hx, ?_, ?_, ih⟩
    · intro c hc
      unfold gapTo at hc
      split at hc
      · cases hc
      · split at hc
        · obtain rfl := List.mem_singleton.1 hc
          decide
        · cases hc
    · generalize r ++ m = n at hh ⊢
      cases n with
      | nil =>
        have hh' : rend (segsX r m) R = [] := hh
        rw [hh']
        obtain ⟨c, q, e1, e2, _⟩ := right_pc hx
        simpa [gapTo] using e2
      | cons y n =>
        obtain ⟨hy, c, q, R', h1, h2⟩ := hh
        rw [h2]
        exact junct hx hy h1

/-- Pieces of right tokens. -/
theorem pcOf_right {x : Tk} (h : rightT x = true) (k : Nat) : pcOf k x.text.data.toList = ⟨x.kind, x.text, k, 0⟩ := by
  obtain ⟨c, q, e1, e2, e3, e4, e5, e6⟩ := right_pc h
  have hb : (⟨x.text.data.toList.toArray⟩ : ByteArray) = x.text := (bytes_eq rfl).symm
  unfold pcOf
  rw [hb, e3, e4, if_neg e5]

/-- The pieces of right tokens, from a place on. -/
def tkP : Nat → List Tk → List Tk → List Piece
  | _, [], _ => []
  | k, x :: r, m => ⟨x.kind, x.text, k, 0⟩ :: tkP (k + x.text.size + (gapTo x (r ++ m)).length) r m

theorem segP_right : ∀ (l m : List Tk) (k : Nat), (∀ x ∈ l, rightT x = true) → segP k (segsX l m) = tkP k l m
  | [], _, _, _ => rfl
  | x :: r, m, k, h => by
    rw [segsX, segP, tkP, pcOf_right (h x (.head _)), segP_right r m _ (fun y hy => h y (.tail _ hy))]
    have : x.text.data.toList.length = x.text.size := by simp
    rw [this]

theorem tkP_length : ∀ (l m : List Tk) (k : Nat), (tkP k l m).length = l.length
  | [], _, _ => rfl
  | x :: r, m, k => by rw [tkP, List.length_cons, tkP_length r m, List.length_cons]

theorem tkP_get : ∀ (l m : List Tk) (k i : Nat) (x : Tk), l[i]? = some x → ∃ j, k ≤ j ∧ (tkP k l m)[i]? = some ⟨x.kind, x.text, j, 0⟩
  | [], _, _, i, x, h => by simp at h
  | y :: r, m, k, 0, x, h => by
    simp only [List.getElem?_cons_zero, Option.some.injEq] at h
    subst h
    exact ⟨k, Nat.le_refl _, rfl⟩
  | y :: r, m, k, i + 1, x, h => by
    obtain ⟨j, h1, h2⟩ := tkP_get r m (k + y.text.size + (gapTo y (r ++ m)).length) i x (by simpa using h)
    exact ⟨j, by omega, by rw [tkP, List.getElem?_cons_succ]; exact h2⟩

theorem tkP_err : ∀ (l m : List Tk) (k : Nat), (∀ x ∈ l, rightT x = true) → ∀ p ∈ tkP k l m, isNote p = false ∧ p.err = 0
  | [], _, _, _, p, h => by cases h
  | x :: r, m, k, hl, p, h => by
    rw [tkP] at h
    rcases List.mem_cons.1 h with rfl | h
    · obtain ⟨c, q, e1, e2, e3, e4, e5, e6⟩ := right_pc (hl x (.head _))
      refine ⟨?_, rfl⟩
      unfold isNote
      simpa using e5
    · exact tkP_err r m _ (fun y hy => hl y (.tail _ hy)) p h

/-- The shortest text, as pieces. -/
theorem sepAt_gap {l : List Tk} {k : Nat} (h : k + 1 < l.length) : sepAt l (k + 1) = gapTo l[k] (l.drop (k + 1)) := by
  have h1 : l[k]! = l[k] := getElem!_pos l k (by omega)
  have h2 : l[k + 1]! = l[k + 1] := getElem!_pos l (k + 1) h
  rw [List.drop_eq_getElem_cons h]
  unfold sepAt gapTo
  simp only [Nat.add_sub_cancel, h1, h2, Nat.succ_pos, true_and]

theorem tgt_from (l : List Tk) : ∀ (d k : Nat), k + d = l.length → 0 < d → tgtAt l l.length = tgtAt l k ++ (sepAt l k ++ rend (segsX (l.drop k) []) [])
  | 0, k, _, h => absurd h (Nat.lt_irrefl _)
  | 1, k, h, _ => by
    have hk : k < l.length := by omega
    have h1 : l[k]! = l[k] := getElem!_pos l k hk
    rw [← h, tgtAt, List.drop_eq_getElem_cons hk, List.drop_eq_nil_of_le (by omega), h1]
    simp [segsX, rend, gapTo]
  | d + 2, k, h, _ => by
    have hk : k < l.length := by omega
    have h1 : l[k]! = l[k] := getElem!_pos l k hk
    rw [tgt_from l (d + 1) (k + 1) (by omega) (by omega), tgtAt, List.drop_eq_getElem_cons hk, segsX, rend, List.append_nil, sepAt_gap (by omega), h1]
    simp only [List.append_assoc]

theorem tgt_segs (l : List Tk) : tgtAt l l.length = rend (segsX l []) [] := by
  by_cases h : l.length = 0
  · obtain rfl := List.eq_nil_of_length_eq_zero h
    rfl
  · rw [tgt_from l l.length 0 (by omega) (by omega)]
    simp [tgtAt, sepAt]

theorem tokRes_all : ∀ (l acc : List Piece), (∀ p ∈ l, isNote p = false ∧ p.err = 0) → acc.length + l.length ≤ 900 → tokRes acc l = (acc ++ l, 0, 0)
  | [], acc, _, _ => by
    rw [tokRes, List.append_nil]
  | p :: r, acc, h, hl => by
    obtain ⟨h1, h2⟩ := h p (.head _)
    rw [List.length_cons] at hl
    rw [tokRes, if_neg (by simp [h1]), if_neg (by simp [h2]), if_neg (by omega), tokRes_all r _ (fun q hq => h q (.tail _ hq)) (by simp; omega)]
    simp
end Go.Proofs.YtjadjmkbjolklaaDoor
