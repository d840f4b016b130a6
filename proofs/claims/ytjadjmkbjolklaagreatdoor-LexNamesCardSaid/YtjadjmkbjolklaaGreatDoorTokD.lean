/- The contracts of the reference's IsSmall, IsDigit, isLetter, run, note, has, BeginsAt. -/
import Derived.Test.YtjadjmkbjolklaaGreatDoorTokP
import Derived.Test.YtjadjmkbjolklaaGreatDoorLow
namespace Go.Proofs.YtjadjmkbjolklaaGreatDoor
open Go.RowKit

def smB (c : Int) : Bool := decide (97 ≤ c) && decide (c ≤ 122)
def dgB (c : Int) : Bool := decide (48 ≤ c) && decide (c ≤ 57)
def ltB (c : Int) : Bool := smB c || (decide (65 ≤ c) && decide (c ≤ 90))

theorem inCls234 (c : UInt8) : inCls [2, 3, 4] c = (ltB c.toNat || dgB c.toNat) := by
  have hc : c.toNat < 256 := UInt8.toNat_lt c
  unfold inCls ltB smB dgB
  rw [Bool.eq_iff_iff]
  simp only [List.any_cons, List.any_nil, Bool.or_false, Bool.or_eq_true, beq_iff_eq, Bool.and_eq_true, decide_eq_true_eq]
  unfold cls
  repeat' split
  all_goals omega

theorem cls2 (c : UInt8) : cls c.toNat = 2 ↔ smB c.toNat = true := by
  have hc : c.toNat < 256 := UInt8.toNat_lt c
  unfold smB
  simp only [Bool.and_eq_true, decide_eq_true_eq]
  unfold cls
  repeat' split
  all_goals omega

theorem cls4 (c : UInt8) : cls c.toNat = 4 ↔ dgB c.toNat = true := by
  have hc : c.toNat < 256 := UInt8.toNat_lt c
  unfold dgB
  simp only [Bool.and_eq_true, decide_eq_true_eq]
  unfold cls
  repeat' split
  all_goals omega

theorem ret_str {a b : ByteArray} (h : a = b) : Ending.returned (.string a) = .returned (.string b) := by rw [h]

theorem begP_eq (s t : ByteArray) (k : Nat) (_ : k + t.size ≤ s.size) : ((s.extract k (k + t.size)).toList == t.toList) = begP s k t := by
  rw [toList_beq]
  unfold begP Lib.hasPrefix
  rw [Bool.eq_iff_iff]
  simp only [decide_eq_true_eq, List.isPrefixOf_iff_prefix, List.prefix_iff_eq_take]
  have e : (s.extract k (k + t.size)).data.toList = (s.data.toList.drop k).take t.data.toList.length := by
    simp only [ByteArray.data_extract, Array.toList_extract, List.extract_eq_take_drop]
    rw [show k + t.size - k = t.size by omega]
    simp
  constructor
  · intro h1
    rw [← e, h1]
  · intro h1
    apply ByteArray.ext
    apply Array.ext'
    rw [e, ← h1]

theorem begP_long (s t : ByteArray) (k : Nat) (h : s.size < k + t.size) (hk : k ≤ s.size) : begP s k t = false := by
  unfold begP Lib.hasPrefix
  rw [Bool.eq_false_iff]
  intro h1
  have := (List.isPrefixOf_iff_prefix.1 h1).length_le
  simp at this
  omega

/-- A slice value that holds texts, in a block below B. -/
def StrIn (W : World) (B : Nat) (v : Value) (l : List ByteArray) : Prop :=
  ∃ A c, v = .slice A l.length c ∧ ∀ i (x : ByteArray), l[i]? = some x → ∃ b off, A = some ⟨b, off, none⟩ ∧ b < B ∧ W.cell? ⟨b, off + i, none⟩ = some (.string x)

theorem StrIn.more {W : World} {B B' : Nat} {v : Value} {l : List ByteArray} (h : StrIn W B v l) (hB : B ≤ B') : StrIn W B' v l := by
  obtain ⟨A, c, rfl, hA⟩ := h
  refine ⟨A, c, rfl, fun i x hx => ?_⟩
  obtain ⟨b, off, rfl, h0, h1⟩ := hA i x hx
  exact ⟨b, off, rfl, by omega, h1⟩

theorem StrIn.below {W W' : World} {B : Nat} {v : Value} {l : List ByteArray} (h : StrIn W B v l) (hb : Below B W W') : StrIn W' B v l := by
  obtain ⟨A, c, rfl, hA⟩ := h
  refine ⟨A, c, rfl, fun i x hx => ?_⟩
  obtain ⟨b, off, rfl, hB, h1⟩ := hA i x hx
  exact ⟨b, off, rfl, hB, (hb.cell (p := ⟨b, _, none⟩) hB).trans h1⟩

theorem str_new (w : World) (l : List ByteArray) (vs : Array Value) (hv : vs = (l.map fun s => (Value.string s)).toArray) (n : Nat) (hn : n = l.length) : StrIn (w.alloc (.cells vs 9)) (w.heap.size + 1) (.slice (some ⟨w.heap.size, 0, none⟩) n n) l := by
  subst hv hn
  refine ⟨_, _, rfl, fun i x hx => ⟨_, _, rfl, by omega, ?_⟩⟩
  rw [World.cell?_alloc_at _ _ _ _ rfl]
  simp [hx]

def hasP (l : List ByteArray) (s : ByteArray) : Bool := l.any fun k => k.data.toList == s.data.toList

theorem hasP_step (l : List ByteArray) (s : ByteArray) (k : Nat) (x : ByteArray) (h : l[k]? = some x) : hasP (l.drop k) s = ((x.data.toList == s.data.toList) || hasP (l.drop (k + 1)) s) := by
  obtain ⟨hk, rfl⟩ := List.getElem?_eq_some_iff.1 h
  rw [List.drop_eq_getElem_cons hk]
  rfl

end Go.Proofs.YtjadjmkbjolklaaGreatDoor
