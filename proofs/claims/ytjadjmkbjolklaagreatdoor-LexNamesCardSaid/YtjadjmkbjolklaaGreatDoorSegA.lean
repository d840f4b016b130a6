/- Pieces of bytes: what the bytes from a place on say of the pieces there. -/
import Derived.Test.YtjadjmkbjolklaaGreatDoorLow
namespace Go.Proofs.YtjadjmkbjolklaaGreatDoor
open Go

/-- How many bytes at the beginning are so. -/
def spL (p : UInt8 → Bool) (L : List UInt8) : Nat := (L.takeWhile p).length

/-- How many bytes the first piece has. -/
def peL (L : List UInt8) : Nat :=
  match L with
  | [] => 0
  | c :: r => if cls c.toNat = 2 ∨ cls c.toNat = 4 then spL (inCls [2, 3, 4]) (c :: r) else if cls c.toNat = 6 then spL (fun c => c != 10) (c :: r)
    else if Lib.hasPrefix (c :: r) [58, 61] = true ∨ Lib.hasPrefix (c :: r) [45, 62] = true then 2 else 1

theorem peL_eq (s : ByteArray) (k : Nat) (h : k < s.size) : pieceEndP s k = k + peL (s.data.toList.drop k) := by
  unfold pieceEndP pre2 lineEndP pastP spanAt
  rw [getBang s k h, drop_cons s k h]
  unfold peL spL
  simp only []
  split
  · rfl
  · split
    · rfl
    · split <;> rfl

/-- A piece, by its bytes. -/
def pcOf (k : Nat) (p : List UInt8) : Piece :=
  { kind := (kindP ⟨p.toArray⟩).1
    text := if (kindP ⟨p.toArray⟩).1 = 5 then ⟨(p.drop 1).toArray⟩ else ⟨p.toArray⟩
    at_ := k
    err := (kindP ⟨p.toArray⟩).2 }

theorem ext_mk (s : ByteArray) (i j : Nat) : s.extract i j = ⟨((s.data.toList.drop i).take (j - i)).toArray⟩ := by
  apply ByteArray.ext
  apply Array.ext'
  simp only [ByteArray.data_extract, Array.toList_extract, List.extract_eq_take_drop]

theorem pcOf_eq (s : ByteArray) (k : Nat) (h : k < s.size) : pieceAt s k = pcOf k ((s.data.toList.drop k).take (peL (s.data.toList.drop k))) := by
  unfold pieceAt pcOf
  rw [peL_eq s k h, ext_mk s k, ext_mk s (k + 1), show k + peL (s.data.toList.drop k) - k = peL (s.data.toList.drop k) by omega]
  simp only [List.drop_take, List.drop_drop]
  rw [show k + peL (s.data.toList.drop k) - (k + 1) = peL (s.data.toList.drop k) - 1 by omega]

/-- The pieces of bytes that begin with no gap; the place of the first one is k. -/
def pcsL : Nat → Nat → List UInt8 → List Piece
  | 0, _, _ => []
  | _ + 1, _, [] => []
  | f + 1, k, c :: r => pcOf k ((c :: r).take (peL (c :: r))) ::
      pcsL f (k + peL (c :: r) + spL (inCls [1]) ((c :: r).drop (peL (c :: r)))) (((c :: r).drop (peL (c :: r))).drop (spL (inCls [1]) ((c :: r).drop (peL (c :: r)))))

/-- The same behind a gap. -/
def pcsG (f k : Nat) (L : List UInt8) : List Piece := pcsL f (k + spL (inCls [1]) L) (L.drop (spL (inCls [1]) L))

theorem pcsL_cons (f k : Nat) {L : List UInt8} (h : L ≠ []) : pcsL (f + 1) k L = pcOf k (L.take (peL L)) :: pcsG f (k + peL L) (L.drop (peL L)) := by
  match L, h with
  | c :: r, _ => rfl

theorem pcsL_nil (f k : Nat) : pcsL f k [] = [] := by cases f <;> rfl

theorem pcsFrom_eq (s : ByteArray) : ∀ f k, pcsFrom s f k = pcsL f k (s.data.toList.drop k)
  | 0, k => rfl
  | f + 1, k => by
    rw [pcsFrom]
    split
    · rename_i h
      have hne : s.data.toList.drop k ≠ [] := by rw [drop_cons s k h]; simp
      rw [pcsL_cons f k hne, pcOf_eq s k h, pcsFrom_eq s f, pcsG, peL_eq s k h, List.drop_drop]
      unfold pastP spanAt spL
      rw [List.drop_drop]
    · rename_i h
      rw [List.drop_eq_nil_of_le (by simp; omega), pcsL_nil]

theorem pcs_eq (s : ByteArray) : pcs s = pcsG s.size 0 s.data.toList := by
  unfold pcs
  rw [pcsFrom_eq, pcsG]
  unfold pastP spanAt spL
  simp

theorem spL_le (p : UInt8 → Bool) (L : List UInt8) : spL p L ≤ L.length := (List.takeWhile_sublist p).length_le

theorem peL_pos {L : List UInt8} (h : L ≠ []) : 0 < peL L := by
  match L, h with
  | c :: r, _ =>
    unfold peL
    simp only []
    split
    · rename_i h1
      unfold spL
      rw [List.takeWhile_cons_of_pos (by unfold inCls; rcases h1 with h1 | h1 <;> simp [h1])]
      simp
    · split
      · rename_i h1
        unfold spL
        rw [List.takeWhile_cons_of_pos (by
          rw [bne_iff_ne]
          rintro rfl
          revert h1
          decide)]
        simp
      · split <;> omega

theorem peL_le (L : List UInt8) : peL L ≤ L.length := by
  cases L with
  | nil => exact Nat.le_refl _
  | cons c r =>
    unfold peL
    simp only []
    split
    · exact spL_le _ _
    · split
      · exact spL_le _ _
      · split
        · rename_i h
          unfold Lib.hasPrefix at h
          cases r with
          | nil => simp at h
          | cons d r => simp
        · simp

theorem pcsL_fuel : ∀ (f f' k : Nat) (L : List UInt8), L.length ≤ f → L.length ≤ f' → pcsL f k L = pcsL f' k L
  | 0, f', k, L, h, _ => by
    obtain rfl : L = [] := List.eq_nil_of_length_eq_zero (by omega)
    rw [pcsL_nil, pcsL_nil]
  | f + 1, 0, k, L, _, h => by
    obtain rfl : L = [] := List.eq_nil_of_length_eq_zero (by omega)
    rw [pcsL_nil, pcsL_nil]
  | f + 1, f' + 1, k, L, h, h' => by
    by_cases hne : L = []
    · subst hne
      rw [pcsL_nil, pcsL_nil]
    · have := peL_pos hne
      rw [pcsL_cons f k hne, pcsL_cons f' k hne, pcsG, pcsG, pcsL_fuel f f' _ _ (by simp; omega) (by simp; omega)]

theorem pcsG_fuel (f f' k : Nat) (L : List UInt8) (h : L.length ≤ f) (h' : L.length ≤ f') : pcsG f k L = pcsG f' k L := pcsL_fuel f f' _ _ (by simp; omega) (by simp; omega)

/-- A piece, some bytes further. -/
def Piece.up (d : Nat) (x : Piece) : Piece := { x with at_ := x.at_ + d }

theorem pcsL_up (d : Nat) : ∀ (f k : Nat) (L : List UInt8), pcsL f (k + d) L = (pcsL f k L).map (Piece.up d)
  | 0, k, L => rfl
  | f + 1, k, L => by
    by_cases hne : L = []
    · subst hne
      rw [pcsL_nil, pcsL_nil]
      rfl
    · rw [pcsL_cons f _ hne, pcsL_cons f k hne, pcsG, pcsG, List.map_cons, ← pcsL_up d f]
      rw [show k + d + peL L + spL (inCls [1]) (L.drop (peL L)) = k + peL L + spL (inCls [1]) (L.drop (peL L)) + d by omega]
      rfl

theorem pcsG_up (d f k : Nat) (L : List UInt8) : pcsG f (k + d) L = (pcsG f k L).map (Piece.up d) := by
  rw [pcsG, pcsG, ← pcsL_up]
  rw [show k + d + spL (inCls [1]) L = k + spL (inCls [1]) L + d by omega]

/-- What looks at bytes up to one behind looks at no more. -/
theorem spL_local (p : UInt8 → Bool) : ∀ (r : Nat) (L M : List UInt8), L.take r = M.take r → spL p L < r → spL p M = spL p L
  | 0, _, _, _, h => absurd h (Nat.not_lt_zero _)
  | r + 1, [], M, h, _ => by
    cases M with
    | nil => rfl
    | cons c M => simp at h
  | r + 1, c :: L, [], h, _ => by simp at h
  | r + 1, c :: L, d :: M, h, hl => by
    simp only [List.take_succ_cons, List.cons.injEq] at h
    obtain ⟨rfl, h⟩ := h
    unfold spL at hl ⊢
    by_cases hc : p c = true
    · rw [List.takeWhile_cons_of_pos hc] at hl ⊢
      rw [List.takeWhile_cons_of_pos hc]
      have := spL_local p r L M h (by unfold spL; simpa using hl)
      unfold spL at this
      simp [this]
    · rw [List.takeWhile_cons_of_neg hc, List.takeWhile_cons_of_neg hc]

theorem peL_local (r : Nat) (L M : List UInt8) (h : L.take r = M.take r) (hl : peL L < r) : peL M = peL L := by
  match r, L, M with
  | 0, _, _ => exact absurd hl (Nat.not_lt_zero _)
  | r + 1, [], [] => rfl
  | r + 1, [], d :: M => simp at h
  | r + 1, c :: L, [] => simp at h
  | r + 1, c :: L, d :: M =>
    have h0 := h
    simp only [List.take_succ_cons, List.cons.injEq] at h
    obtain ⟨rfl, h⟩ := h
    unfold peL at hl ⊢
    simp only [] at hl ⊢
    split
    · rename_i h1
      rw [if_pos h1] at hl
      exact spL_local _ (r + 1) _ _ h0 hl
    · rename_i h1
      rw [if_neg h1] at hl
      split
      · rename_i h2
        rw [if_pos h2] at hl
        exact spL_local _ (r + 1) _ _ h0 hl
      · rename_i h2
        rw [if_neg h2] at hl
        have hp : ∀ a b : UInt8, Lib.hasPrefix (c :: L) [a, b] = Lib.hasPrefix (c :: M) [a, b] := by
          intro a b
          unfold Lib.hasPrefix
          match r, L, M with
          | 0, _, _ => split at hl <;> omega
          | r + 1, [], [] => rfl
          | r + 1, [], e :: M => simp at h
          | r + 1, e :: L, [] => simp at h
          | r + 1, e :: L, e' :: M =>
            simp only [List.take_succ_cons, List.cons.injEq] at h
            obtain ⟨rfl, _⟩ := h
            simp [List.isPrefixOf]
        rw [hp, hp]
end Go.Proofs.YtjadjmkbjolklaaGreatDoor
