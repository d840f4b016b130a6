/- Tokens as the reference tells them, against pieces: plain mathematics. -/
import Derived.Test.YtjadjmkbjolklaaGreatDoorBase
import Derived.Test.YtjadjmkbjolklaaGreatDoorMid
namespace Go.Proofs.YtjadjmkbjolklaaGreatDoor
open Go Go.RowKit

/-- One digit more, at most m. -/
def capS (m n : Nat) (c : UInt8) : Nat := min (10 * n + (c.toNat - 48)) m

/-- What the reference's numberError counts, at most m. -/
def capD (m n : Nat) (l : List UInt8) : Nat := l.foldl (capS m) n

theorem capD_nil (m n : Nat) : capD m n [] = n := rfl
theorem capD_cons (m n : Nat) (c : UInt8) (r : List UInt8) : capD m n (c :: r) = capD m (min (10 * n + (c.toNat - 48)) m) r := by
  unfold capD
  rw [List.foldl_cons, capS]

theorem capD_top (m : Nat) : ∀ l : List UInt8, capD m m l = m
  | [] => by rw [capD_nil]
  | c :: r => by
    rw [capD_cons, Nat.min_eq_right (by omega)]
    exact capD_top m r

theorem capD_le (m : Nat) : ∀ (l : List UInt8) (n : Nat), n ≤ m → capD m n l ≤ m
  | [], n, h => by rw [capD_nil]; exact h
  | c :: r, n, h => by
    rw [capD_cons]
    exact capD_le m r _ (Nat.min_le_right _ _)

def capEnd (m n : Nat) : Lib.NumEnd Nat → Prop
  | .ok u => n = min u m
  | .range => n = m
  | _ => False

theorem capD_parse (m : Nat) (hm : m ≤ 1844674407370955162) : ∀ (l : List UInt8) (acc : Nat), (∀ c ∈ l, 48 ≤ c.toNat ∧ c.toNat ≤ 57) → capEnd m (capD m (min acc m) l) (Lib.parseUint10 acc l)
  | [], acc, _ => by
    rw [capD_nil]
    exact rfl
  | c :: r, acc, h => by
    have hc := h c (.head _)
    rw [Lib.parseUint10, if_pos hc]
    by_cases h1 : 1844674407370955162 ≤ acc
    · rw [if_pos h1]
      show _ = _
      rw [Nat.min_eq_right (by omega)]
      exact capD_top m _
    · rw [if_neg h1]
      have e : min (10 * min acc m + (c.toNat - 48)) m = min (acc * 10 + (c.toNat - 48)) m := by omega
      by_cases h2 : 18446744073709551616 ≤ acc * 10 + (c.toNat - 48)
      · rw [if_pos h2]
        show _ = _
        rw [capD_cons, e, Nat.min_eq_right (by omega)]
        exact capD_top m _
      · rw [if_neg h2, capD_cons, e]
        exact capD_parse m hm r _ (fun x hx => h x (.tail _ hx))

theorem numOk_cap (m : Nat) (hm : m = 1000001) (s : ByteArray) (h0 : 0 < s.size) (h : ∀ c ∈ s.data.toList, 48 ≤ c.toNat ∧ c.toNat ≤ 57) : numOk s = decide (capD m 0 s.data.toList ≤ 1000000) := by
  have hp := capD_parse m (by omega) s.data.toList 0 h
  unfold numOk
  cases hl : s.data.toList with
  | nil =>
    have := congrArg List.length hl
    have e : s.data.toList.length = s.size := by simp
    rw [e, List.length_nil] at this
    omega
  | cons c r =>
    rw [hl] at hp h
    have hc := h c (.head _)
    have hmg : Lib.parseMag (if c.toNat = 43 ∨ c.toNat = 45 then r else c :: r) = Lib.parseUint10 0 (c :: r) := by
      rw [if_neg (by omega)]
      unfold Lib.parseMag
      rw [if_neg (by simp)]
    unfold Lib.atoiAll
    simp only [hmg]
    rw [Nat.zero_min] at hp
    have hn : ¬ c.toNat = 45 := by omega
    rcases hq : Lib.parseUint10 0 (c :: r) with u | _ | _
    · rw [hq] at hp
      have hp' : capD m 0 (c :: r) = min u m := hp
      rw [hp']
      by_cases hu : 9223372036854775808 ≤ u
      · simp only [hn, hu, not_false_eq_true, and_self, if_true]
        symm
        rw [decide_eq_false_iff_not]
        omega
      · simp only [hn, hu, and_false, false_and, if_false]
        rw [Bool.eq_iff_iff, decide_eq_true_eq, decide_eq_true_eq]
        omega
    · rw [hq] at hp
      exact hp.elim
    · rw [hq] at hp
      have hp' : capD m 0 (c :: r) = m := hp
      rw [hp']
      symm
      rw [decide_eq_false_iff_not]
      omega

def isDig (c : UInt8) : Bool := decide (48 ≤ c.toNat) && decide (c.toNat ≤ 57)

theorem inCls4 (c : UInt8) : inCls [4] c = isDig c := by
  unfold inCls isDig
  rw [Bool.eq_iff_iff]
  simp only [List.any_cons, List.any_nil, Bool.or_false, beq_iff_eq, Bool.and_eq_true, decide_eq_true_eq]
  unfold cls
  repeat' split
  all_goals omega

theorem capD_step (m : Nat) (l : List UInt8) (n k : Nat) (c : UInt8) (h : l[k]? = some c) : capD m n (l.drop k) = capD m (min (10 * n + (c.toNat - 48)) m) (l.drop (k + 1)) := by
  obtain ⟨hk, rfl⟩ := List.getElem?_eq_some_iff.1 h
  rw [List.drop_eq_getElem_cons hk, capD_cons]

/-- What the reference's numberError returns, from a byte on. -/
theorem numErr_bad (s : ByteArray) (k : Nat) (h : k < s.size) (hb : isDig s[k] = false) : numErr s = 4 := by
  unfold numErr
  rw [if_pos]
  rcases Nat.lt_or_ge (pastP (inCls [4]) s 0) s.size with h1 | h1
  · exact h1
  · have := (pastP_all (inCls [4]) s (s.size - 0) 0 rfl).1 k h (by omega) (by omega)
    rw [inCls4, hb] at this
    cases this

theorem numErr_zero (s : ByteArray) (h : 1 < s.size) (hb : (s[0]'(by omega)).toNat = 48) : numErr s = 4 := by
  unfold numErr
  split
  · rfl
  · rw [if_pos ⟨by rw [getBang s 0 (by omega)]; exact hb, h⟩]

theorem numErr_end (m : Nat) (hm : m = 1000001) (s : ByteArray) (h0 : 0 < s.size) (hd : ∀ j (h : j < s.size), isDig s[j] = true) (hz : 1 < s.size → (s[0]'h0).toNat ≠ 48) :
    numErr s = if capD m 0 s.data.toList ≤ 1000000 then 0 else 3 := by
  unfold numErr
  rw [if_neg, if_neg, numOk_cap m hm s h0]
  · simp
  · intro c hc
    obtain ⟨j, hj, rfl⟩ := List.getElem_of_mem hc
    have := hd j (by simpa using hj)
    unfold isDig at this
    simp only [Bool.and_eq_true, decide_eq_true_eq] at this
    exact this
  · rintro ⟨h1, h2⟩
    rw [getBang s 0 h0] at h1
    exact hz h2 h1
  · intro h1
    have := (pastP_all (inCls [4]) s (s.size - 0) 0 rfl).2 h1
    rw [inCls4, hd] at this
    cases this
end Go.Proofs.YtjadjmkbjolklaaGreatDoor
namespace Go.Proofs.YtjadjmkbjolklaaGreatDoor
open Go Go.RowKit

/-- The signs, longer ones first. -/
def signL : List ByteArray := [⟨#[58, 61]⟩, ⟨#[45, 62]⟩, ⟨#[61]⟩, ⟨#[60]⟩, ⟨#[43]⟩, ⟨#[45]⟩, ⟨#[42]⟩, ⟨#[33]⟩, ⟨#[40]⟩, ⟨#[41]⟩, ⟨#[123]⟩, ⟨#[125]⟩, ⟨#[44]⟩, ⟨#[59]⟩, ⟨#[58]⟩, ⟨#[46]⟩]

/-- Does a text stand at a place of another one? -/
def begP (s : ByteArray) (k : Nat) (t : ByteArray) : Bool := Lib.hasPrefix (s.data.toList.drop k) t.data.toList

/-- The first of some signs that stands at a place. -/
def firstSign (s : ByteArray) (k : Nat) : List ByteArray → Option ByteArray
  | [] => none
  | t :: r => if begP s k t = true then some t else firstSign s k r

def oneL : List UInt8 := [61, 60, 43, 45, 42, 33, 40, 41, 123, 125, 44, 59, 58, 46]

theorem oneL_fin : ∀ n : Fin 256, oneL.find? (fun x => decide (UInt8.ofNat n.val = x)) = if cls n.val = 5 then some (UInt8.ofNat n.val) else none := by decide +kernel

theorem oneL_cls (b : UInt8) : oneL.find? (fun x => decide (b = x)) = if cls b.toNat = 5 then some b else none := by
  have h := oneL_fin ⟨b.toNat, UInt8.toNat_lt b⟩
  simpa using h

theorem begP_one (s : ByteArray) (k : Nat) (h : k < s.size) (x : UInt8) : begP s k ⟨#[x]⟩ = decide (s[k] = x) := by
  unfold begP Lib.hasPrefix
  rw [drop_cons s k h]
  by_cases e : s[k] = x
  · simp [List.isPrefixOf, e]
  · simp [List.isPrefixOf, e, Ne.symm e]

theorem firstSign_one (s : ByteArray) (k : Nat) (h : k < s.size) : ∀ l : List UInt8, firstSign s k (l.map fun x => ⟨#[x]⟩) = (l.find? (fun x => decide (s[k] = x))).map fun b => ⟨#[b]⟩
  | [] => rfl
  | x :: r => by
    rw [List.map_cons, firstSign, begP_one s k h, List.find?_cons, firstSign_one s k h r]
    by_cases e : s[k] = x
    · simp [e]
    · simp [e]

theorem begP_two (s : ByteArray) (k : Nat) (a b : UInt8) : begP s k ⟨#[a, b]⟩ = pre2 s k a b := rfl

theorem pre2_first {s : ByteArray} {k : Nat} {a b : UInt8} (h : k < s.size) (hp : pre2 s k a b = true) : s[k] = a := by
  unfold pre2 Lib.hasPrefix at hp
  rw [drop_cons s k h] at hp
  simp [List.isPrefixOf] at hp
  exact hp.1.symm

theorem ext_two {s : ByteArray} {k : Nat} {a b : UInt8} (hp : pre2 s k a b = true) : s.extract k (k + 2) = ⟨#[a, b]⟩ := by
  unfold pre2 Lib.hasPrefix at hp
  obtain ⟨r, hr⟩ := List.isPrefixOf_iff_prefix.1 hp
  apply ByteArray.ext
  apply Array.ext'
  simp only [ByteArray.data_extract, Array.toList_extract, List.extract_eq_take_drop, ← hr]
  simp

theorem ext_one {s : ByteArray} {k : Nat} (h : k < s.size) : s.extract k (k + 1) = ⟨#[s[k]]⟩ := by
  apply ByteArray.ext
  apply Array.ext'
  simp only [ByteArray.data_extract, Array.toList_extract, List.extract_eq_take_drop, drop_cons s k h]
  simp

theorem firstSign_eq (s : ByteArray) (k : Nat) (h : k < s.size) : firstSign s k signL = if cls s[k].toNat = 5 then some (s.extract k (pieceEndP s k)) else none := by
  have hg := getBang s k h
  have h1 : firstSign s k signL = if pre2 s k 58 61 = true then some ⟨#[58, 61]⟩ else if pre2 s k 45 62 = true then some ⟨#[45, 62]⟩ else (oneL.find? (fun x => decide (s[k] = x))).map fun b => ⟨#[b]⟩ := by
    rw [← firstSign_one s k h]
    rfl
  rw [h1]
  by_cases p1 : pre2 s k 58 61 = true
  · have hb := pre2_first h p1
    have hc : cls s[k].toNat = 5 := by rw [hb]; rfl
    have he : pieceEndP s k = k + 2 := by
      unfold pieceEndP
      rw [hg, hc, if_neg (by decide), if_neg (by decide), if_pos (.inl p1)]
    rw [if_pos p1, if_pos hc, he, ext_two p1]
  · rw [if_neg p1]
    by_cases p2 : pre2 s k 45 62 = true
    · have hb := pre2_first h p2
      have hc : cls s[k].toNat = 5 := by rw [hb]; rfl
      have he : pieceEndP s k = k + 2 := by
        unfold pieceEndP
        rw [hg, hc, if_neg (by decide), if_neg (by decide), if_pos (.inr p2)]
      rw [if_pos p2, if_pos hc, he, ext_two p2]
    · rw [if_neg p2, oneL_cls]
      by_cases hc : cls s[k].toNat = 5
      · have he : pieceEndP s k = k + 1 := by
          unfold pieceEndP
          rw [hg, hc, if_neg (by decide), if_neg (by decide), if_neg (by simp [p1, p2])]
        rw [if_pos hc, if_pos hc, he, ext_one h]
        rfl
      · rw [if_neg hc, if_neg hc]
        rfl

/-- The letters and digits from a place on. -/
def runP (s : ByteArray) (k : Nat) : ByteArray := s.extract k (pastP (inCls [2, 3, 4]) s k)

/-- What the reference's Token returns: the kind and the text, or the error. -/
def tokRef (s : ByteArray) (k : Nat) : Int × ByteArray × Int :=
  if cls (s[k]!).toNat = 6 then (0, ⟨#[]⟩, 4)
  else if (kindP (s.extract k (pieceEndP s k))).2 = 0 then ((kindP (s.extract k (pieceEndP s k))).1, s.extract k (pieceEndP s k), 0)
  else (0, ⟨#[]⟩, (kindP (s.extract k (pieceEndP s k))).2)

theorem ext_first (s : ByteArray) (k e : Nat) (h : k < s.size) (he : k < e) : (s.extract k e)[0]! = s[k]! := by
  rw [getBang s k h]
  have h0 : 0 < (s.extract k e).size := by simp; omega
  rw [getBang _ 0 h0]
  simp [ByteArray.getElem_extract]

theorem tokRef_small {s : ByteArray} {k : Nat} (h : k < s.size) (hc : cls s[k].toNat = 2) :
    tokRef s k = if isKw (runP s k) = true then (3, runP s k, 0) else if 12 < (runP s k).size then (0, ⟨#[]⟩, 4) else (1, runP s k, 0) := by
  have he : pieceEndP s k = pastP (inCls [2, 3, 4]) s k := by
    unfold pieceEndP
    rw [getBang s k h, if_pos (.inl hc)]
  have hgt := pieceEndP_gt s k h
  have hk : kindP (runP s k) = if isKw (runP s k) = true then (3, 0) else if 12 < (runP s k).size then (1, 4) else (1, 0) := by
    unfold kindP
    rw [show (runP s k)[0]! = s[k]! from ext_first s k _ h (by rw [← he]; exact hgt), getBang s k h, if_pos hc]
  unfold tokRef
  rw [getBang s k h, hc, if_neg (by decide), he]
  show (if (kindP (runP s k)).2 = 0 then ((kindP (runP s k)).1, runP s k, 0) else (0, ⟨#[]⟩, (kindP (runP s k)).2)) = _
  rw [hk]
  split
  · rfl
  · split
    · rfl
    · rfl

theorem tokRef_digit {s : ByteArray} {k : Nat} (h : k < s.size) (hc : cls s[k].toNat = 4) :
    tokRef s k = if numErr (runP s k) = 0 then (2, runP s k, 0) else (0, ⟨#[]⟩, numErr (runP s k)) := by
  have he : pieceEndP s k = pastP (inCls [2, 3, 4]) s k := by
    unfold pieceEndP
    rw [getBang s k h, if_pos (.inr hc)]
  have hgt := pieceEndP_gt s k h
  have hk : kindP (runP s k) = (2, numErr (runP s k)) := by
    unfold kindP
    rw [show (runP s k)[0]! = s[k]! from ext_first s k _ h (by rw [← he]; exact hgt), getBang s k h, hc, if_neg (by decide), if_pos rfl]
  unfold tokRef
  rw [getBang s k h, hc, if_neg (by decide), he]
  show (if (kindP (runP s k)).2 = 0 then ((kindP (runP s k)).1, runP s k, 0) else (0, ⟨#[]⟩, (kindP (runP s k)).2)) = _
  rw [hk]

theorem tokRef_else {s : ByteArray} {k : Nat} (h : k < s.size) (h2 : cls s[k].toNat ≠ 2) (h4 : cls s[k].toNat ≠ 4) :
    tokRef s k = match firstSign s k signL with
      | some t => (4, t, 0)
      | none => (0, ⟨#[]⟩, 4) := by
  have hgt := pieceEndP_gt s k h
  rw [firstSign_eq s k h]
  unfold tokRef
  have hf := ext_first s k _ h hgt
  rw [getBang s k h] at hf ⊢
  unfold kindP
  rw [hf]
  by_cases h6 : cls s[k].toNat = 6
  · rw [if_pos h6, if_neg (by omega)]
  · rw [if_neg h6, if_neg h2, if_neg h4]
    by_cases h5 : cls s[k].toNat = 5
    · rw [if_pos h5, if_pos h5]
      rfl
    · rw [if_neg h5, if_neg h5, if_neg h6]
      rfl

/-- Letters and digits stand at a place just if its byte is one. -/
theorem run_empty {s : ByteArray} {k : Nat} (h : k < s.size) : (runP s k).size = 0 ↔ ¬ (cls s[k].toNat = 2 ∨ cls s[k].toNat = 3 ∨ cls s[k].toNat = 4) := by
  have hle := pastP_le (inCls [2, 3, 4]) s k (by omega)
  have hi : inCls [2, 3, 4] s[k] = true ↔ (cls s[k].toNat = 2 ∨ cls s[k].toNat = 3 ∨ cls s[k].toNat = 4) := by
    unfold inCls
    simp
  have hsz : (runP s k).size = pastP (inCls [2, 3, 4]) s k - k := by
    unfold runP
    simp
    omega
  rw [hsz, ← hi]
  constructor
  · intro h0 h1
    have := pastP_gt _ s k h h1
    omega
  · intro h0
    rw [pastP_no _ s k h (by simpa using h0)]
    omega
end Go.Proofs.YtjadjmkbjolklaaGreatDoor
namespace Go.Proofs.YtjadjmkbjolklaaGreatDoor
open Go Go.RowKit

theorem isNote_mk (t : ByteArray) (a : Nat) : isNote ⟨5, t, a, 0⟩ = true := rfl

/-- Is a byte a blank or a line feed? -/
theorem inCls1 (c : UInt8) : inCls [1] c = decide (cls c.toNat = 1) := by
  unfold inCls
  rw [Bool.eq_iff_iff]
  simp

theorem cls1 (c : UInt8) : cls c.toNat = 1 ↔ c.toNat = 32 ∨ c.toNat = 10 := by
  unfold cls
  constructor
  · intro h
    repeat' split at h
    all_goals omega
  · intro h
    rw [if_pos (by omega)]

theorem cls6 (c : UInt8) : cls c.toNat = 6 ↔ c.toNat = 126 := by
  unfold cls
  constructor
  · intro h
    repeat' split at h
    all_goals omega
  · intro h
    rw [if_neg (by omega), if_neg (by omega), if_pos (by omega)]

/-- What is still to come of a text at a place: pieces. -/
def RestP (s : ByteArray) (k : Nat) (rest : List Piece) : Prop := ∃ f, rest = pcsFrom s f (pastP (inCls [1]) s k) ∧ s.size - pastP (inCls [1]) s k ≤ f

theorem restP_start (s : ByteArray) : RestP s 0 (pcs s) := ⟨s.size, rfl, by omega⟩

theorem restP_gap {s : ByteArray} {k : Nat} {rest : List Piece} (h : RestP s k rest) (hk : k < s.size) (hg : cls s[k].toNat = 1) : RestP s (k + 1) rest := by
  obtain ⟨f, h1, h2⟩ := h
  have e : pastP (inCls [1]) s k = pastP (inCls [1]) s (k + 1) := pastP_yes _ s k hk (by rw [inCls1, hg]; rfl)
  exact ⟨f, by rw [h1, e], by rw [← e]; exact h2⟩

theorem restP_piece {s : ByteArray} {k : Nat} {rest : List Piece} (h : RestP s k rest) (hk : k < s.size) (hg : cls s[k].toNat ≠ 1) : ∃ rest', rest = pieceAt s k :: rest' ∧ RestP s (pieceEndP s k) rest' := by
  obtain ⟨f, h1, h2⟩ := h
  have e : pastP (inCls [1]) s k = k := pastP_no _ s k hk (by rw [inCls1]; simpa using hg)
  rw [e] at h1 h2
  obtain ⟨f', h3, h4⟩ := pcsFrom_step s f k hk h2
  exact ⟨_, by rw [h1, h3], f', rfl, h4⟩

theorem restP_end {s : ByteArray} {k : Nat} {rest : List Piece} (h : RestP s k rest) (hk : s.size ≤ k) : rest = [] := by
  obtain ⟨f, h1, _⟩ := h
  rw [h1, pcsFrom_end]
  exact Nat.le_trans hk (pastP_ge _ _ _)

theorem lineEnd_gt {s : ByteArray} {k : Nat} (hk : k < s.size) (h : s[k].toNat = 126) : k + 1 ≤ lineEndP s k := by
  unfold lineEndP
  have := pastP_gt (fun c => c != 10) s k hk (by
    rw [bne_iff_ne]
    intro e
    rw [e] at h
    revert h
    decide)
  omega

theorem piece_note {s : ByteArray} {k : Nat} (hk : k < s.size) (h : s[k].toNat = 126) : pieceAt s k = ⟨5, s.extract (k + 1) (lineEndP s k), k, 0⟩ ∧ pieceEndP s k = lineEndP s k := by
  have hc : cls s[k].toNat = 6 := (cls6 _).2 h
  have he : pieceEndP s k = lineEndP s k := by
    unfold pieceEndP
    rw [getBang s k hk, hc, if_neg (by decide), if_pos rfl]
  have hgt := lineEnd_gt hk h
  have hf := ext_first s k (lineEndP s k) hk (by omega)
  rw [getBang s k hk] at hf
  have hkp : kindP (s.extract k (lineEndP s k)) = (5, 0) := by
    unfold kindP
    rw [hf, hc]
    rfl
  refine ⟨?_, he⟩
  unfold pieceAt
  rw [he, hkp]
  rfl

theorem piece_tok {s : ByteArray} {k : Nat} (hk : k < s.size) (h : s[k].toNat ≠ 126) :
    isNote (pieceAt s k) = false ∧ (pieceAt s k).at_ = k ∧ (pieceAt s k).err = (tokRef s k).2.2 ∧
      ((tokRef s k).2.2 = 0 → pieceAt s k = ⟨(tokRef s k).1, (tokRef s k).2.1, k, 0⟩ ∧ pieceEndP s k = k + (tokRef s k).2.1.size) := by
  have hc : cls s[k].toNat ≠ 6 := fun e => h ((cls6 _).1 e)
  have hgt := pieceEndP_gt s k hk
  have hle := pieceEndP_le s k hk
  have hf := ext_first s k _ hk hgt
  rw [getBang s k hk] at hf
  have h5 : (kindP (s.extract k (pieceEndP s k))).1 ≠ 5 := by
    unfold kindP
    rw [hf]
    repeat' split
    all_goals first
      | exact absurd ‹_ = (6 : Int)› hc
      | (dsimp only; decide)
  have ht : tokRef s k = if (kindP (s.extract k (pieceEndP s k))).2 = 0 then ((kindP (s.extract k (pieceEndP s k))).1, s.extract k (pieceEndP s k), 0) else (0, ⟨#[]⟩, (kindP (s.extract k (pieceEndP s k))).2) := by
    unfold tokRef
    rw [getBang s k hk, if_neg hc]
  have hp : pieceAt s k = ⟨(kindP (s.extract k (pieceEndP s k))).1, s.extract k (pieceEndP s k), k, (kindP (s.extract k (pieceEndP s k))).2⟩ := by
    unfold pieceAt
    rw [if_neg h5]
  rw [hp, ht]
  refine ⟨by simpa [isNote] using h5, rfl, ?_, ?_⟩
  · split
    · assumption
    · rfl
  · intro h0
    split at h0
    · rename_i h1
      rw [if_pos h1, h1]
      refine ⟨rfl, ?_⟩
      simp
      omega
    · rename_i h1
      exact absurd h0 h1

/-- Does the reference's All stand so? -/
def AllP (s : ByteArray) (k : Nat) (acc nts : List Piece) : Prop := ∃ rest, RestP s k rest ∧ tokRes [] (pcs s) = tokRes acc rest ∧ notes s = nts ++ rest.filter isNote

theorem allP_start (s : ByteArray) : AllP s 0 [] [] := ⟨pcs s, restP_start s, rfl, rfl⟩

theorem allP_gap {s : ByteArray} {k : Nat} {acc nts : List Piece} (h : AllP s k acc nts) (hk : k < s.size) (hg : s[k].toNat = 32 ∨ s[k].toNat = 10) : AllP s (k + 1) acc nts := by
  obtain ⟨rest, h1, h2, h3⟩ := h
  exact ⟨rest, restP_gap h1 hk ((cls1 _).2 hg), h2, h3⟩

theorem allP_note {s : ByteArray} {k : Nat} {acc nts : List Piece} (h : AllP s k acc nts) (hk : k < s.size) (hg : s[k].toNat = 126) : AllP s (lineEndP s k) acc (nts ++ [⟨5, s.extract (k + 1) (lineEndP s k), k, 0⟩]) := by
  obtain ⟨rest, h1, h2, h3⟩ := h
  obtain ⟨r, rfl, hr⟩ := restP_piece h1 hk (fun e => by have := (cls1 _).1 e; omega)
  obtain ⟨e1, e2⟩ := piece_note hk hg
  rw [e1] at h2 h3
  rw [e2] at hr
  refine ⟨r, hr, ?_, ?_⟩
  · rw [h2, tokRes, if_pos (isNote_mk _ _)]
  · rw [h3, List.filter_cons, if_pos (isNote_mk _ _)]
    simp

theorem allP_tok {s : ByteArray} {k : Nat} {acc nts : List Piece} (h : AllP s k acc nts) (hk : k < s.size) (hg : ¬(s[k].toNat = 32 ∨ s[k].toNat = 10)) (hn : s[k].toNat ≠ 126) (he : (tokRef s k).2.2 = 0) (h9 : acc.length ≠ 900) :
    AllP s (k + (tokRef s k).2.1.size) (acc ++ [⟨(tokRef s k).1, (tokRef s k).2.1, k, 0⟩]) nts := by
  obtain ⟨rest, h1, h2, h3⟩ := h
  obtain ⟨r, rfl, hr⟩ := restP_piece h1 hk (fun e => hg ((cls1 _).1 e))
  obtain ⟨p1, p2, p3, p4⟩ := piece_tok hk hn
  obtain ⟨p5, p6⟩ := p4 he
  rw [p6] at hr
  refine ⟨r, hr, ?_, ?_⟩
  · rw [h2, tokRes, if_neg (by simp [p1]), if_neg (by rw [p3, he]; simp), if_neg h9, p5]
  · rw [h3, List.filter_cons, if_neg (by simp [p1])]

theorem allP_bad {s : ByteArray} {k : Nat} {acc nts : List Piece} (h : AllP s k acc nts) (hk : k < s.size) (hg : ¬(s[k].toNat = 32 ∨ s[k].toNat = 10)) (hn : s[k].toNat ≠ 126) (he : (tokRef s k).2.2 ≠ 0) :
    tokRes [] (pcs s) = ([], k, (tokRef s k).2.2) := by
  obtain ⟨rest, h1, h2, h3⟩ := h
  obtain ⟨r, rfl, hr⟩ := restP_piece h1 hk (fun e => hg ((cls1 _).1 e))
  obtain ⟨p1, p2, p3, p4⟩ := piece_tok hk hn
  rw [h2, tokRes, if_neg (by simp [p1]), if_pos (by rw [p3]; exact he), p2, p3]

theorem allP_many {s : ByteArray} {k : Nat} {acc nts : List Piece} (h : AllP s k acc nts) (hk : k < s.size) (hg : ¬(s[k].toNat = 32 ∨ s[k].toNat = 10)) (hn : s[k].toNat ≠ 126) (he : (tokRef s k).2.2 = 0) (h9 : acc.length = 900) :
    tokRes [] (pcs s) = ([], k, 5) := by
  obtain ⟨rest, h1, h2, h3⟩ := h
  obtain ⟨r, rfl, hr⟩ := restP_piece h1 hk (fun e => hg ((cls1 _).1 e))
  obtain ⟨p1, p2, p3, p4⟩ := piece_tok hk hn
  rw [h2, tokRes, if_neg (by simp [p1]), if_neg (by rw [p3, he]; simp), if_pos h9, p2]

theorem allP_end {s : ByteArray} {k : Nat} {acc nts : List Piece} (h : AllP s k acc nts) (hk : s.size ≤ k) : tokRes [] (pcs s) = (acc, 0, 0) ∧ notes s = nts := by
  obtain ⟨rest, h1, h2, h3⟩ := h
  rw [restP_end h1 hk] at h2 h3
  exact ⟨h2, by simpa using h3⟩

theorem tokRef_le {s : ByteArray} {k : Nat} (hk : k < s.size) (hn : s[k].toNat ≠ 126) (he : (tokRef s k).2.2 = 0) : k < k + (tokRef s k).2.1.size ∧ k + (tokRef s k).2.1.size ≤ s.size := by
  obtain ⟨p1, p2, p3, p4⟩ := piece_tok hk hn
  rw [← (p4 he).2]
  exact ⟨pieceEndP_gt s k hk, pieceEndP_le s k hk⟩

/-- How the reference's Notes stands: at a place at which a piece begins, or within one that has no comment behind the place. -/
def NoteP (s : ByteArray) (k : Nat) (nts : List Piece) : Prop :=
  ∃ e rest, k ≤ e ∧ (∀ j (h : j < s.size), k ≤ j → j < e → s[j].toNat ≠ 126) ∧ RestP s e rest ∧ notes s = nts ++ rest.filter isNote

theorem noteP_start (s : ByteArray) : NoteP s 0 [] := ⟨0, pcs s, Nat.le_refl _, fun j h h1 h2 => by omega, restP_start s, rfl⟩

theorem piece_in {s : ByteArray} {k : Nat} (hk : k < s.size) (hn : s[k].toNat ≠ 126) : ∀ j (h : j < s.size), k ≤ j → j < pieceEndP s k → s[j].toNat ≠ 126 := by
  intro j hj h1 h2
  by_cases hjk : j = k
  · subst hjk
    exact hn
  · unfold pieceEndP at h2
    rw [getBang s k hk] at h2
    have hc : cls s[k].toNat ≠ 6 := fun e => hn ((cls6 _).1 e)
    split at h2
    · have := (pastP_all (inCls [2, 3, 4]) s (s.size - k) k rfl).1 j hj h1 h2
      intro e
      have h6 := (cls6 s[j]).2 e
      unfold inCls at this
      simp [h6] at this
    · split at h2
      · rename_i hp
        have hj2 : j = k + 1 := by omega
        subst hj2
        rcases hp with hp | hp
        · have h3 := ext_two hp
          have h4 : (s.extract k (k + 2))[1]! = s[k + 1] := by
            have hlt : 1 < (s.extract k (k + 2)).size := by simp; omega
            rw [getBang _ 1 hlt]
            simp [ByteArray.getElem_extract]
          rw [h3] at h4
          rw [← h4]
          decide
        · have h3 := ext_two hp
          have h4 : (s.extract k (k + 2))[1]! = s[k + 1] := by
            have hlt : 1 < (s.extract k (k + 2)).size := by simp; omega
            rw [getBang _ 1 hlt]
            simp [ByteArray.getElem_extract]
          rw [h3] at h4
          rw [← h4]
          decide
      · omega

theorem noteP_other {s : ByteArray} {k : Nat} {nts : List Piece} (h : NoteP s k nts) (hk : k < s.size) (hn : s[k].toNat ≠ 126) : NoteP s (k + 1) nts := by
  obtain ⟨e, rest, h1, h2, h3, h4⟩ := h
  by_cases hke : k < e
  · exact ⟨e, rest, by omega, fun j hj a b => h2 j hj (by omega) b, h3, h4⟩
  · obtain rfl : k = e := by omega
    by_cases hg : cls s[k].toNat = 1
    · exact ⟨k + 1, rest, Nat.le_refl _, fun j hj a b => by omega, restP_gap h3 hk hg, h4⟩
    · obtain ⟨r, rfl, hr⟩ := restP_piece h3 hk hg
      obtain ⟨p1, p2, p3, p4⟩ := piece_tok hk hn
      refine ⟨pieceEndP s k, r, pieceEndP_gt s k hk, fun j hj a b => piece_in hk hn j hj (by omega) b, hr, ?_⟩
      rw [h4, List.filter_cons, if_neg (by simp [p1])]

theorem noteP_note {s : ByteArray} {k : Nat} {nts : List Piece} (h : NoteP s k nts) (hk : k < s.size) (hn : s[k].toNat = 126) : NoteP s (lineEndP s k) (nts ++ [⟨5, s.extract (k + 1) (lineEndP s k), k, 0⟩]) := by
  obtain ⟨e, rest, h1, h2, h3, h4⟩ := h
  have hke : ¬ k < e := fun hlt => h2 k hk (Nat.le_refl _) hlt hn
  obtain rfl : k = e := by omega
  obtain ⟨r, rfl, hr⟩ := restP_piece h3 hk (fun e => by have := (cls1 _).1 e; omega)
  obtain ⟨e1, e2⟩ := piece_note hk hn
  rw [e1] at h4
  rw [e2] at hr
  refine ⟨lineEndP s k, r, Nat.le_refl _, fun j hj a b => by omega, hr, ?_⟩
  rw [h4, List.filter_cons, if_pos (isNote_mk _ _)]
  simp

theorem noteP_end {s : ByteArray} {k : Nat} {nts : List Piece} (h : NoteP s k nts) (hk : s.size ≤ k) : notes s = nts := by
  obtain ⟨e, rest, h1, h2, h3, h4⟩ := h
  rw [restP_end h3 (by omega)] at h4
  simpa using h4
end Go.Proofs.YtjadjmkbjolklaaGreatDoor
