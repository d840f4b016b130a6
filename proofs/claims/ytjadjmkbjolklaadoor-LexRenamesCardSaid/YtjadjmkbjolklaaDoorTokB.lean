/- The reference's tokens, in plain functions. -/
import Derived.Test.YtjadjmkbjolklaaDoorTokA
namespace Go.Proofs.YtjadjmkbjolklaaDoor
open Go Go.RowKit

/-- The signs, longer ones first. -/
def signL : List ByteArray := [⟨#[58, 61]⟩, ⟨#[45, 62]⟩, ⟨#[61]⟩, ⟨#[60]⟩, ⟨#[43]⟩, ⟨#[45]⟩, ⟨#[42]⟩, ⟨#[33]⟩, ⟨#[40]⟩, ⟨#[41]⟩, ⟨#[123]⟩, ⟨#[125]⟩, ⟨#[44]⟩, ⟨#[59]⟩, ⟨#[58]⟩, ⟨#[46]⟩]

/-- Does a text stand at a place of another one? -/
def begP (s : ByteArray) (k : Nat) (t : ByteArray) : Bool := Lib.hasPrefix (s.data.toList.drop k) t.data.toList

/-- The first of some signs that stands at a place. -/
def firstSign (s : ByteArray) (k : Nat) : List ByteArray → Option ByteArray
  | [] => none
  | t :: r => if begP s k t = true then some t else firstSign s k r

def oneL : List UInt8 := [61, 60, 43, 45, 42, 33, 40, 41, 123, 125, 44, 59, 58, 46]

theorem oneL_fin : ∀ n : Fin 256, oneL.find? (fun x => decide (UInt8.ofNat n.val = x)) = if cls n.val = 5 then some (UInt8.ofNat n.val) else none := by decide +kernel

theorem oneL_cls (b : UInt8) : oneL.find? (fun x => decide (b = x)) = if cls b.toNat = 5 then some b else none := by
  have h := oneL_fin ⟨b.toNat, UInt8.toNat_lt b⟩
  simpa using h

theorem begP_one (s : ByteArray) (k : Nat) (h : k < s.size) (x : UInt8) : begP s k ⟨#[x]⟩ = decide (s[k] = x) := by
  unfold begP Lib.hasPrefix
  rw [drop_cons s k h]
  by_cases e : s[k] = x
  · simp [List.isPrefixOf, e]
  · simp [List.isPrefixOf, e, Ne.symm e]

theorem firstSign_one (s : ByteArray) (k : Nat) (h : k < s.size) : ∀ l : List UInt8, firstSign s k (l.map fun x => ⟨#[x]⟩) = (l.find? (fun x => decide (s[k] = x))).map fun b => ⟨#[b]⟩
  | [] => rfl
  | x :: r => by
    rw [List.map_cons, firstSign, begP_one s k h, List.find?_cons, firstSign_one s k h r]
    by_cases e : s[k] = x
    · simp [e]
    · simp [e]

theorem begP_two (s : ByteArray) (k : Nat) (a b : UInt8) : begP s k ⟨#[a, b]⟩ = pre2 s k a b := rfl

theorem pre2_first {s : ByteArray} {k : Nat} {a b : UInt8} (h : k < s.size) (hp : pre2 s k a b = true) : s[k] = a := by
  unfold pre2 Lib.hasPrefix at hp
  rw [drop_cons s k h] at hp
  simp [List.isPrefixOf] at hp
  exact hp.1.symm

theorem ext_two {s : ByteArray} {k : Nat} {a b : UInt8} (hp : pre2 s k a b = true) : s.extract k (k + 2) = ⟨#[a, b]⟩ := by
  unfold pre2 Lib.hasPrefix at hp
  obtain ⟨r, hr⟩ := List.isPrefixOf_iff_prefix.1 hp
  apply ByteArray.ext
  apply Array.ext'
  simp only [ByteArray.data_extract, Array.toList_extract, List.extract_eq_take_drop, ← hr]
  simp

theorem ext_one {s : ByteArray} {k : Nat} (h : k < s.size) : s.extract k (k + 1) = ⟨#[s[k]]⟩ := by
  apply ByteArray.ext
  apply Array.ext'
  simp only [ByteArray.data_extract, Array.toList_extract, List.extract_eq_take_drop, drop_cons s k h]
  simp

theorem firstSign_eq (s : ByteArray) (k : Nat) (h : k < s.size) : firstSign s k signL = if cls s[k].toNat = 5 then some (s.extract k (pieceEndP s k)) else none := by
  have hg := getBang s k h
  have h1 : firstSign s k signL = if pre2 s k 58 61 = true then some ⟨#[58, 61]⟩ else if pre2 s k 45 62 = true then some ⟨#[45, 62]⟩ else (oneL.find? (fun x => decide (s[k] = x))).map fun b => ⟨#[b]⟩ := by
    rw [← firstSign_one s k h]
    rfl
  rw [h1]
  by_cases p1 : pre2 s k 58 61 = true
  · have hb := pre2_first h p1
    have hc : cls s[k].toNat = 5 := by rw [hb]; rfl
    have he : pieceEndP s k = k + 2 := by
      unfold pieceEndP
      rw [hg, hc, if_neg (by decide), if_neg (by decide), if_pos (.inl p1)]
    rw [if_pos p1, if_pos hc, he, ext_two p1]
  · rw [if_neg p1]
    by_cases p2 : pre2 s k 45 62 = true
    · have hb := pre2_first h p2
      have hc : cls s[k].toNat = 5 := by rw [hb]; rfl
      have he : pieceEndP s k = k + 2 := by
        unfold pieceEndP
        rw [hg, hc, if_neg (by decide), if_neg (by decide), if_pos (.inr p2)]
      rw [if_pos p2, if_pos hc, he, ext_two p2]
    · rw [if_neg p2, oneL_cls]
      by_cases hc : cls s[k].toNat = 5
      · have he : pieceEndP s k = k + 1 := by
          unfold pieceEndP
          rw [hg, hc, if_neg (by decide), if_neg (by decide), if_neg (by simp [p1, p2])]
        rw [if_pos hc, if_pos hc, he, ext_one h]
        rfl
      · rw [if_neg hc, if_neg hc]
        rfl

/-- The letters and digits from a place on. -/
def runP (s : ByteArray) (k : Nat) : ByteArray := s.extract k (pastP (inCls [2, 3, 4]) s k)

/-- What the reference's Token returns: the kind and the text, or the error. -/
def tokRef (s : ByteArray) (k : Nat) : Int × ByteArray × Int :=
  if cls (s[k]!).toNat = 6 then (0, ⟨#[]⟩, 4)
  else if (kindP (s.extract k (pieceEndP s k))).2 = 0 then ((kindP (s.extract k (pieceEndP s k))).1, s.extract k (pieceEndP s k), 0)
  else (0, ⟨#[]⟩, (kindP (s.extract k (pieceEndP s k))).2)

theorem ext_first (s : ByteArray) (k e : Nat) (h : k < s.size) (he : k < e) : (s.extract k e)[0]! = s[k]! := by
  rw [getBang s k h]
  have h0 : 0 < (s.extract k e).size := by simp; omega
  rw [getBang _ 0 h0]
  simp [ByteArray.getElem_extract]

theorem tokRef_small {s : ByteArray} {k : Nat} (h : k < s.size) (hc : cls s[k].toNat = 2) :
    tokRef s k = if isKw (runP s k) = true then (3, runP s k, 0) else if 12 < (runP s k).size then (0, ⟨#[]⟩, 4) else (1, runP s k, 0) := by
  have he : pieceEndP s k = pastP (inCls [2, 3, 4]) s k := by
    unfold pieceEndP
    rw [getBang s k h, if_pos (.inl hc)]
  have hgt := pieceEndP_gt s k h
  have hk : kindP (runP s k) = if isKw (runP s k) = true then (3, 0) else if 12 < (runP s k).size then (1, 4) else (1, 0) := by
    unfold kindP
    rw [show (runP s k)[0]! = s[k]! from ext_first s k _ h (by rw [← he]; exact hgt), getBang s k h, if_pos hc]
  unfold tokRef
  rw [getBang s k h, hc, if_neg (by decide), he]
  show (if (kindP (runP s k)).2 = 0 then ((kindP (runP s k)).1, runP s k, 0) else (0, ⟨#[]⟩, (kindP (runP s k)).2)) = _
  rw [hk]
  split
  · rfl
  · split
    · rfl
    · rfl

theorem tokRef_digit {s : ByteArray} {k : Nat} (h : k < s.size) (hc : cls s[k].toNat = 4) :
    tokRef s k = if numErr (runP s k) = 0 then (2, runP s k, 0) else (0, ⟨#[]⟩, numErr (runP s k)) := by
  have he : pieceEndP s k = pastP (inCls [2, 3, 4]) s k := by
    unfold pieceEndP
    rw [getBang s k h, if_pos (.inr hc)]
  have hgt := pieceEndP_gt s k h
  have hk : kindP (runP s k) = (2, numErr (runP s k)) := by
    unfold kindP
    rw [show (runP s k)[0]! = s[k]! from ext_first s k _ h (by rw [← he]; exact hgt), getBang s k h, hc, if_neg (by decide), if_pos rfl]
  unfold tokRef
  rw [getBang s k h, hc, if_neg (by decide), he]
  show (if (kindP (runP s k)).2 = 0 then ((kindP (runP s k)).1, runP s k, 0) else (0, ⟨#[]⟩, (kindP (runP s k)).2)) = _
  rw [hk]

theorem tokRef_else {s : ByteArray} {k : Nat} (h : k < s.size) (h2 : cls s[k].toNat ≠ 2) (h4 : cls s[k].toNat ≠ 4) :
    tokRef s k = match firstSign s k signL with
      | some t => (4, t, 0)
      | none => (0, ⟨#[]⟩, 4) := by
  have hgt := pieceEndP_gt s k h
  rw [firstSign_eq s k h]
  unfold tokRef
  have hf := ext_first s k _ h hgt
  rw [getBang s k h] at hf ⊢
  unfold kindP
  rw [hf]
  by_cases h6 : cls s[k].toNat = 6
  · rw [if_pos h6, if_neg (by omega)]
  · rw [if_neg h6, if_neg h2, if_neg h4]
    by_cases h5 : cls s[k].toNat = 5
    · rw [if_pos h5, if_pos h5]
      rfl
    · rw [if_neg h5, if_neg h5, if_neg h6]
      rfl

/-- Letters and digits stand at a place just if its byte is one. -/
theorem run_empty {s : ByteArray} {k : Nat} (h : k < s.size) : (runP s k).size = 0 ↔ ¬ (cls s[k].toNat = 2 ∨ cls s[k].toNat = 3 ∨ cls s[k].toNat = 4) := by
  have hle := pastP_le (inCls [2, 3, 4]) s k (by omega)
  have hi : inCls [2, 3, 4] s[k] = true ↔ (cls s[k].toNat = 2 ∨ cls s[k].toNat = 3 ∨ cls s[k].toNat = 4) := by
    unfold inCls
    simp
  have hsz : (runP s k).size = pastP (inCls [2, 3, 4]) s k - k := by
    unfold runP
    simp
    omega
  rw [hsz, ← hi]
  constructor
  · intro h0 h1
    have := pastP_gt _ s k h h1
    omega
  · intro h0
    rw [pastP_no _ s k h (by simpa using h0)]
    omega
end Go.Proofs.YtjadjmkbjolklaaDoor
