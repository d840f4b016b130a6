/- The reference's way through a text, in plain functions. -/
import Derived.Test.YtjadjmkbjolklaaDoorTokB
namespace Go.Proofs.YtjadjmkbjolklaaDoor
open Go Go.RowKit

theorem isNote_mk (t : ByteArray) (a : Nat) : isNote ⟨5, t, a, 0⟩ = true := rfl

/-- Is a byte a blank or a line feed? -/
theorem inCls1 (c : UInt8) : inCls [1] c = decide (cls c.toNat = 1) := by
  unfold inCls
  rw [Bool.eq_iff_iff]
  simp

theorem cls1 (c : UInt8) : cls c.toNat = 1 ↔ c.toNat = 32 ∨ c.toNat = 10 := by
  unfold cls
  constructor
  · intro h
    repeat' split at h
    all_goals omega
  · intro h
    rw [if_pos (by omega)]

theorem cls6 (c : UInt8) : cls c.toNat = 6 ↔ c.toNat = 126 := by
  unfold cls
  constructor
  · intro h
    repeat' split at h
    all_goals omega
  · intro h
    rw [if_neg (by omega), if_neg (by omega), if_pos (by omega)]

/-- What is still to come of a text at a place: pieces. -/
def RestP (s : ByteArray) (k : Nat) (rest : List Piece) : Prop := ∃ f, rest = pcsFrom s f (pastP (inCls [1]) s k) ∧ s.size - pastP (inCls [1]) s k ≤ f

theorem restP_start (s : ByteArray) : RestP s 0 (pcs s) := ⟨s.size, rfl, by omega⟩

theorem restP_gap {s : ByteArray} {k : Nat} {rest : List Piece} (h : RestP s k rest) (hk : k < s.size) (hg : cls s[k].toNat = 1) : RestP s (k + 1) rest := by
  obtain ⟨f, h1, h2⟩ := h
  have e : pastP (inCls [1]) s k = pastP (inCls [1]) s (k + 1) := pastP_yes _ s k hk (by rw [inCls1, hg]; rfl)
  exact ⟨f, by rw [h1, e], by rw [← e]; exact h2⟩

theorem restP_piece {s : ByteArray} {k : Nat} {rest : List Piece} (h : RestP s k rest) (hk : k < s.size) (hg : cls s[k].toNat ≠ 1) : ∃ rest', rest = pieceAt s k :: rest' ∧ RestP s (pieceEndP s k) rest' := by
  obtain ⟨f, h1, h2⟩ := h
  have e : pastP (inCls [1]) s k = k := pastP_no _ s k hk (by rw [inCls1]; simpa using hg)
  rw [e] at h1 h2
  obtain ⟨f', h3, h4⟩ := pcsFrom_step s f k hk h2
  exact ⟨_, by rw [h1, h3], f', rfl, h4⟩

theorem restP_end {s : ByteArray} {k : Nat} {rest : List Piece} (h : RestP s k rest) (hk : s.size ≤ k) : rest = [] := by
  obtain ⟨f, h1, _⟩ := h
  rw [h1, pcsFrom_end]
  exact Nat.le_trans hk (pastP_ge _ _ _)

theorem lineEnd_gt {s : ByteArray} {k : Nat} (hk : k < s.size) (h : s[k].toNat = 126) : k + 1 ≤ lineEndP s k := by
  unfold lineEndP
  have := pastP_gt (fun c => c != 10) s k hk (by
    rw [bne_iff_ne]
    intro e
    rw [e] at h
    revert h
    decide)
  omega

theorem piece_note {s : ByteArray} {k : Nat} (hk : k < s.size) (h : s[k].toNat = 126) : pieceAt s k = ⟨5, s.extract (k + 1) (lineEndP s k), k, 0⟩ ∧ pieceEndP s k = lineEndP s k := by
  have hc : cls s[k].toNat = 6 := (cls6 _).2 h
  have he : pieceEndP s k = lineEndP s k := by
    unfold pieceEndP
    rw [getBang s k hk, hc, if_neg (by decide), if_pos rfl]
  have hgt := lineEnd_gt hk h
  have hf := ext_first s k (lineEndP s k) hk (by omega)
  rw [getBang s k hk] at hf
  have hkp : kindP (s.extract k (lineEndP s k)) = (5, 0) := by
    unfold kindP
    rw [hf, hc]
    rfl
  refine ⟨?_, he⟩
  unfold pieceAt
  rw [he, hkp]
  rfl

theorem piece_tok {s : ByteArray} {k : Nat} (hk : k < s.size) (h : s[k].toNat ≠ 126) :
    isNote (pieceAt s k) = false ∧ (pieceAt s k).at_ = k ∧ (pieceAt s k).err = (tokRef s k).2.2 ∧
      ((tokRef s k).2.2 = 0 → pieceAt s k = ⟨(tokRef s k).1, (tokRef s k).2.1, k, 0⟩ ∧ pieceEndP s k = k + (tokRef s k).2.1.size) := by
  have hc : cls s[k].toNat ≠ 6 := fun e => h ((cls6 _).1 e)
  have hgt := pieceEndP_gt s k hk
  have hle := pieceEndP_le s k hk
  have hf := ext_first s k _ hk hgt
  rw [getBang s k hk] at hf
  have h5 : (kindP (s.extract k (pieceEndP s k))).1 ≠ 5 := by
    unfold kindP
    rw [hf]
    repeat' split
    all_goals first
      | exact absurd ‹_ = (6 : Int)› hc
      | (dsimp only; decide)
  have ht : tokRef s k = if (kindP (s.extract k (pieceEndP s k))).2 = 0 then ((kindP (s.extract k (pieceEndP s k))).1, s.extract k (pieceEndP s k), 0) else (0, ⟨#[]⟩, (kindP (s.extract k (pieceEndP s k))).2) := by
    unfold tokRef
    rw [getBang s k hk, if_neg hc]
  have hp : pieceAt s k = ⟨(kindP (s.extract k (pieceEndP s k))).1, s.extract k (pieceEndP s k), k, (kindP (s.extract k (pieceEndP s k))).2⟩ := by
    unfold pieceAt
    rw [if_neg h5]
  rw [hp, ht]
  refine ⟨by simpa [isNote] using h5, rfl, ?_, ?_⟩
  · split
    · assumption
    · rfl
  · intro h0
    split at h0
    · rename_i h1
      rw [if_pos h1, h1]
      refine ⟨rfl, ?_⟩
      simp
      omega
    · rename_i h1
      exact absurd h0 h1

/-- Does the reference's All stand so? -/
def AllP (s : ByteArray) (k : Nat) (acc nts : List Piece) : Prop := ∃ rest, RestP s k rest ∧ tokRes [] (pcs s) = tokRes acc rest ∧ notes s = nts ++ rest.filter isNote

theorem allP_start (s : ByteArray) : AllP s 0 [] [] := ⟨pcs s, restP_start s, rfl, rfl⟩

theorem allP_gap {s : ByteArray} {k : Nat} {acc nts : List Piece} (h : AllP s k acc nts) (hk : k < s.size) (hg : s[k].toNat = 32 ∨ s[k].toNat = 10) : AllP s (k + 1) acc nts := by
  obtain ⟨rest, h1, h2, h3⟩ := h
  exact ⟨rest, restP_gap h1 hk ((cls1 _).2 hg), h2, h3⟩

theorem allP_note {s : ByteArray} {k : Nat} {acc nts : List Piece} (h : AllP s k acc nts) (hk : k < s.size) (hg : s[k].toNat = 126) : AllP s (lineEndP s k) acc (nts ++ [⟨5, s.extract (k + 1) (lineEndP s k), k, 0⟩]) := by
  obtain ⟨rest, h1, h2, h3⟩ := h
  obtain ⟨r, rfl, hr⟩ := restP_piece h1 hk (fun e => by have := (cls1 _).1 e; omega)
  obtain ⟨e1, e2⟩ := piece_note hk hg
  rw [e1] at h2 h3
  rw [e2] at hr
  refine ⟨r, hr, ?_, ?_⟩
  · rw [h2, tokRes, if_pos (isNote_mk _ _)]
  · rw [h3, List.filter_cons, if_pos (isNote_mk _ _)]
    simp

theorem allP_tok {s : ByteArray} {k : Nat} {acc nts : List Piece} (h : AllP s k acc nts) (hk : k < s.size) (hg : ¬(s[k].toNat = 32 ∨ s[k].toNat = 10)) (hn : s[k].toNat ≠ 126) (he : (tokRef s k).2.2 = 0) (h9 : acc.length ≠ 900) :
    AllP s (k + (tokRef s k).2.1.size) (acc ++ [⟨(tokRef s k).1, (tokRef s k).2.1, k, 0⟩]) nts := by
  obtain ⟨rest, h1, h2, h3⟩ := h
  obtain ⟨r, rfl, hr⟩ := restP_piece h1 hk (fun e => hg ((cls1 _).1 e))
  obtain ⟨p1, p2, p3, p4⟩ := piece_tok hk hn
  obtain ⟨p5, p6⟩ := p4 he
  rw [p6] at hr
  refine ⟨r, hr, ?_, ?_⟩
  · rw [h2, tokRes, if_neg (by simp [p1]), if_neg (by rw [p3, he]; simp), if_neg h9, p5]
  · rw [h3, List.filter_cons, if_neg (by simp [p1])]

theorem allP_bad {s : ByteArray} {k : Nat} {acc nts : List Piece} (h : AllP s k acc nts) (hk : k < s.size) (hg : ¬(s[k].toNat = 32 ∨ s[k].toNat = 10)) (hn : s[k].toNat ≠ 126) (he : (tokRef s k).2.2 ≠ 0) :
    tokRes [] (pcs s) = ([], k, (tokRef s k).2.2) := by
  obtain ⟨rest, h1, h2, h3⟩ := h
  obtain ⟨r, rfl, hr⟩ := restP_piece h1 hk (fun e => hg ((cls1 _).1 e))
  obtain ⟨p1, p2, p3, p4⟩ := piece_tok hk hn
  rw [h2, tokRes, if_neg (by simp [p1]), if_pos (by rw [p3]; exact he), p2, p3]

theorem allP_many {s : ByteArray} {k : Nat} {acc nts : List Piece} (h : AllP s k acc nts) (hk : k < s.size) (hg : ¬(s[k].toNat = 32 ∨ s[k].toNat = 10)) (hn : s[k].toNat ≠ 126) (he : (tokRef s k).2.2 = 0) (h9 : acc.length = 900) :
    tokRes [] (pcs s) = ([], k, 5) := by
  obtain ⟨rest, h1, h2, h3⟩ := h
  obtain ⟨r, rfl, hr⟩ := restP_piece h1 hk (fun e => hg ((cls1 _).1 e))
  obtain ⟨p1, p2, p3, p4⟩ := piece_tok hk hn
  rw [h2, tokRes, if_neg (by simp [p1]), if_neg (by rw [p3, he]; simp), if_pos h9, p2]

theorem allP_end {s : ByteArray} {k : Nat} {acc nts : List Piece} (h : AllP s k acc nts) (hk : s.size ≤ k) : tokRes [] (pcs s) = (acc, 0, 0) ∧ notes s = nts := by
  obtain ⟨rest, h1, h2, h3⟩ := h
  rw [restP_end h1 hk] at h2 h3
  exact ⟨h2, by simpa using h3⟩

theorem tokRef_le {s : ByteArray} {k : Nat} (hk : k < s.size) (hn : s[k].toNat ≠ 126) (he : (tokRef s k).2.2 = 0) : k < k + (tokRef s k).2.1.size ∧ k + (tokRef s k).2.1.size ≤ s.size := by
  obtain ⟨p1, p2, p3, p4⟩ := piece_tok hk hn
  rw [← (p4 he).2]
  exact ⟨pieceEndP_gt s k hk, pieceEndP_le s k hk⟩

/-- How the reference's Notes stands: at a place at which a piece begins, or within one that has no comment behind the place. -/
def NoteP (s : ByteArray) (k : Nat) (nts : List Piece) : Prop :=
  ∃ e rest, k ≤ e ∧ (∀ j (h : j < s.size), k ≤ j → j < e → s[j].toNat ≠ 126) ∧ RestP s e rest ∧ notes s = nts ++ rest.filter isNote

theorem noteP_start (s : ByteArray) : NoteP s 0 [] := ⟨0, pcs s, Nat.le_refl _, fun j h h1 h2 => by omega, restP_start s, rfl⟩

theorem piece_in {s : ByteArray} {k : Nat} (hk : k < s.size) (hn : s[k].toNat ≠ 126) : ∀ j (h : j < s.size), k ≤ j → j < pieceEndP s k → s[j].toNat ≠ 126 := by
  intro j hj h1 h2
  by_cases hjk : j = k
  · subst hjk
    exact hn
  · unfold pieceEndP at h2
    rw [getBang s k hk] at h2
    have hc : cls s[k].toNat ≠ 6 := fun e => hn ((cls6 _).1 e)
    split at h2
    · have := (pastP_all (inCls [2, 3, 4]) s (s.size - k) k rfl).1 j hj h1 h2
      intro e
      have h6 := (cls6 s[j]).2 e
      unfold inCls at this
      simp [h6] at this
    · split at h2
      · rename_i hp
        have hj2 : j = k + 1 := by omega
        subst hj2
        rcases hp with hp | hp
        · have h3 := ext_two hp
          have h4 : (s.extract k (k + 2))[1]! = s[k + 1] := by
            have hlt : 1 < (s.extract k (k + 2)).size := by simp; omega
            rw [getBang _ 1 hlt]
            simp [ByteArray.getElem_extract]
          rw [h3] at h4
          rw [← h4]
          decide
        · have h3 := ext_two hp
          have h4 : (s.extract k (k + 2))[1]! = s[k + 1] := by
            have hlt : 1 < (s.extract k (k + 2)).size := by simp; omega
            rw [getBang _ 1 hlt]
            simp [ByteArray.getElem_extract]
          rw [h3] at h4
          rw [← h4]
          decide
      · omega

theorem noteP_other {s : ByteArray} {k : Nat} {nts : List Piece} (h : NoteP s k nts) (hk : k < s.size) (hn : s[k].toNat ≠ 126) : NoteP s (k + 1) nts := by
  obtain ⟨e, rest, h1, h2, h3, h4⟩ := h
  by_cases hke : k < e
  · exact ⟨e, rest, by omega, fun j hj a b => h2 j hj (by omega) b, h3, h4⟩
  · obtain rfl : k = e := by omega
    by_cases hg : cls s[k].toNat = 1
    · exact ⟨k + 1, rest, Nat.le_refl _, fun j hj a b => by omega, restP_gap h3 hk hg, h4⟩
    · obtain ⟨r, rfl, hr⟩ := restP_piece h3 hk hg
      obtain ⟨p1, p2, p3, p4⟩ := piece_tok hk hn
      refine ⟨pieceEndP s k, r, pieceEndP_gt s k hk, fun j hj a b => piece_in hk hn j hj (by omega) b, hr, ?_⟩
      rw [h4, List.filter_cons, if_neg (by simp [p1])]

theorem noteP_note {s : ByteArray} {k : Nat} {nts : List Piece} (h : NoteP s k nts) (hk : k < s.size) (hn : s[k].toNat = 126) : NoteP s (lineEndP s k) (nts ++ [⟨5, s.extract (k + 1) (lineEndP s k), k, 0⟩]) := by
  obtain ⟨e, rest, h1, h2, h3, h4⟩ := h
  have hke : ¬ k < e := fun hlt => h2 k hk (Nat.le_refl _) hlt hn
  obtain rfl : k = e := by omega
  obtain ⟨r, rfl, hr⟩ := restP_piece h3 hk (fun e => by have := (cls1 _).1 e; omega)
  obtain ⟨e1, e2⟩ := piece_note hk hn
  rw [e1] at h4
  rw [e2] at hr
  refine ⟨lineEndP s k, r, Nat.le_refl _, fun j hj a b => by omega, hr, ?_⟩
  rw [h4, List.filter_cons, if_pos (isNote_mk _ _)]
  simp

theorem noteP_end {s : ByteArray} {k : Nat} {nts : List Piece} (h : NoteP s k nts) (hk : s.size ≤ k) : notes s = nts := by
  obtain ⟨e, rest, h1, h2, h3, h4⟩ := h
  rw [restP_end h3 (by omega)] at h4
  simpa using h4
end Go.Proofs.YtjadjmkbjolklaaDoor
