/- The reference's numbers, in plain functions. -/
import Derived.Test.YtjadjmkbjolklaaDoorPure8
import Derived.Test.YtjadjmkbjolklaaDoorLexI
namespace Go.Proofs.YtjadjmkbjolklaaDoor
open Go Go.RowKit

/-- One digit more, at most m. -/
def capS (m n : Nat) (c : UInt8) : Nat := min (10 * n + (c.toNat - 48)) m

/-- What the reference's numberError counts, at most m. -/
def capD (m n : Nat) (l : List UInt8) : Nat := l.foldl (capS m) n

theorem capD_nil (m n : Nat) : capD m n [] = n := rfl
theorem capD_cons (m n : Nat) (c : UInt8) (r : List UInt8) : capD m n (c :: r) = capD m (min (10 * n + (c.toNat - 48)) m) r := by
  unfold capD
  rw [List.foldl_cons, capS]

theorem capD_top (m : Nat) : ∀ l : List UInt8, capD m m l = m
  | [] => by rw [capD_nil]
  | c :: r => by
    rw [capD_cons, Nat.min_eq_right (by omega)]
    exact capD_top m r

theorem capD_le (m : Nat) : ∀ (l : List UInt8) (n : Nat), n ≤ m → capD m n l ≤ m
  | [], n, h => by rw [capD_nil]; exact h
  | c :: r, n, h => by
    rw [capD_cons]
    exact capD_le m r _ (Nat.min_le_right _ _)

def capEnd (m n : Nat) : Lib.NumEnd Nat → Prop
  | .ok u => n = min u m
  | .range => n = m
  | _ => False

theorem capD_parse (m : Nat) (hm : m ≤ 1844674407370955162) : ∀ (l : List UInt8) (acc : Nat), (∀ c ∈ l, 48 ≤ c.toNat ∧ c.toNat ≤ 57) → capEnd m (capD m (min acc m) l) (Lib.parseUint10 acc l)
  | [], acc, _ => by
    rw [capD_nil]
    exact rfl
  | c :: r, acc, h => by
    have hc := h c (.head _)
    rw [Lib.parseUint10, if_pos hc]
    by_cases h1 : 1844674407370955162 ≤ acc
    · rw [if_pos h1]
      show _ = _
      rw [Nat.min_eq_right (by omega)]
      exact capD_top m _
    · rw [if_neg h1]
      have e : min (10 * min acc m + (c.toNat - 48)) m = min (acc * 10 + (c.toNat - 48)) m := by omega
      by_cases h2 : 18446744073709551616 ≤ acc * 10 + (c.toNat - 48)
      · rw [if_pos h2]
        show _ = _
        rw [capD_cons, e, Nat.min_eq_right (by omega)]
        exact capD_top m _
      · rw [if_neg h2, capD_cons, e]
        exact capD_parse m hm r _ (fun x hx => h x (.tail _ hx))

theorem numOk_cap (m : Nat) (hm : m = 1000001) (s : ByteArray) (h0 : 0 < s.size) (h : ∀ c ∈ s.data.toList, 48 ≤ c.toNat ∧ c.toNat ≤ 57) : numOk s = decide (capD m 0 s.data.toList ≤ 1000000) := by
  have hp := capD_parse m (by omega) s.data.toList 0 h
  unfold numOk
  cases hl : s.data.toList with
  | nil =>
    have := congrArg List.length hl
    have e : s.data.toList.length = s.size := by simp
    rw [e, List.length_nil] at this
    omega
  | cons c r =>
    rw [hl] at hp h
    have hc := h c (.head _)
    have hmg : Lib.parseMag (if c.toNat = 43 ∨ c.toNat = 45 then r else c :: r) = Lib.parseUint10 0 (c :: r) := by
      rw [if_neg (by omega)]
      unfold Lib.parseMag
      rw [if_neg (by simp)]
    unfold Lib.atoiAll
    simp only [hmg]
    rw [Nat.zero_min] at hp
    have hn : ¬ c.toNat = 45 := by omega
    rcases hq : Lib.parseUint10 0 (c :: r) with u | _ | _
    · rw [hq] at hp
      have hp' : capD m 0 (c :: r) = min u m := hp
      rw [hp']
      by_cases hu : 9223372036854775808 ≤ u
      · simp only [hn, hu, not_false_eq_true, and_self, if_true]
        symm
        rw [decide_eq_false_iff_not]
        omega
      · simp only [hn, hu, and_false, false_and, if_false]
        rw [Bool.eq_iff_iff, decide_eq_true_eq, decide_eq_true_eq]
        omega
    · rw [hq] at hp
      exact hp.elim
    · rw [hq] at hp
      have hp' : capD m 0 (c :: r) = m := hp
      rw [hp']
      symm
      rw [decide_eq_false_iff_not]
      omega

def isDig (c : UInt8) : Bool := decide (48 ≤ c.toNat) && decide (c.toNat ≤ 57)

theorem inCls4 (c : UInt8) : inCls [4] c = isDig c := by
  unfold inCls isDig
  rw [Bool.eq_iff_iff]
  simp only [List.any_cons, List.any_nil, Bool.or_false, beq_iff_eq, Bool.and_eq_true, decide_eq_true_eq]
  unfold cls
  repeat' split
  all_goals omega

theorem capD_step (m : Nat) (l : List UInt8) (n k : Nat) (c : UInt8) (h : l[k]? = some c) : capD m n (l.drop k) = capD m (min (10 * n + (c.toNat - 48)) m) (l.drop (k + 1)) := by
  obtain ⟨hk, rfl⟩ := List.getElem?_eq_some_iff.1 h
  rw [List.drop_eq_getElem_cons hk, capD_cons]

/-- What the reference's numberError returns, from a byte on. -/
theorem numErr_bad (s : ByteArray) (k : Nat) (h : k < s.size) (hb : isDig s[k] = false) : numErr s = 4 := by
  unfold numErr
  rw [if_pos]
  rcases Nat.lt_or_ge (pastP (inCls [4]) s 0) s.size with h1 | h1
  · exact h1
  · have := (pastP_all (inCls [4]) s (s.size - 0) 0 rfl).1 k h (by omega) (by omega)
    rw [inCls4, hb] at this
    cases this

theorem numErr_zero (s : ByteArray) (h : 1 < s.size) (hb : (s[0]'(by omega)).toNat = 48) : numErr s = 4 := by
  unfold numErr
  split
  · rfl
  · rw [if_pos ⟨by rw [getBang s 0 (by omega)]; exact hb, h⟩]

theorem numErr_end (m : Nat) (hm : m = 1000001) (s : ByteArray) (h0 : 0 < s.size) (hd : ∀ j (h : j < s.size), isDig s[j] = true) (hz : 1 < s.size → (s[0]'h0).toNat ≠ 48) :
    numErr s = if capD m 0 s.data.toList ≤ 1000000 then 0 else 3 := by
  unfold numErr
  rw [if_neg, if_neg, numOk_cap m hm s h0]
  · simp
  · intro c hc
    obtain ⟨j, hj, rfl⟩ := List.getElem_of_mem hc
    have := hd j (by simpa using hj)
    unfold isDig at this
    simp only [Bool.and_eq_true, decide_eq_true_eq] at this
    exact this
  · rintro ⟨h1, h2⟩
    rw [getBang s 0 h0] at h1
    exact hz h2 h1
  · intro h1
    have := (pastP_all (inCls [4]) s (s.size - 0) 0 rfl).2 h1
    rw [inCls4, hd] at this
    cases this
end Go.Proofs.YtjadjmkbjolklaaDoor
