/- The contract of lex.pieceEnd. -/
import Derived.Test.YtjadjmkbjolklaaDoorLexC
namespace Go.Proofs.YtjadjmkbjolklaaDoor
open Go.RowKit

theorem le_max {n : Nat} (h : n ≤ 140737488355328) : n ≤ maxLen := by unfold maxLen; omega

/-- Do two bytes stand at a place? -/
def pre2 (s : ByteArray) (n : Nat) (a b : UInt8) : Bool := Lib.hasPrefix (s.data.toList.drop n) [a, b]

theorem pre2_le {s : ByteArray} {n : Nat} {a b : UInt8} (h : pre2 s n a b = true) : n + 2 ≤ s.size := by
  unfold pre2 Lib.hasPrefix at h
  have := (List.isPrefixOf_iff_prefix.1 h).length_le
  simp at this
  omega

theorem hasPrefix2 (s : ByteArray) (n : Nat) (a b : UInt8) (w : World) :
    Calls Tryd.prog 105 #[.string (s.extract n s.size), .string ⟨#[a, b]⟩] w fun e w' => e = .returned (.bool (pre2 s n a b)) ∧ w = w' := by
  refine (Tryd.strings_HasPrefix _ _ _).mono ?_
  rintro e w' ⟨rfl, rfl⟩
  have hx : (s.extract n s.size).data.toList = s.data.toList.drop n := by simp [List.take_of_length_le]
  rw [hx]
  exact ⟨rfl, rfl⟩

/-- The place behind the piece that begins at a place. -/
def pieceEndP (s : ByteArray) (k : Nat) : Nat :=
  if cls (s[k]!).toNat = 2 ∨ cls (s[k]!).toNat = 4 then pastP (inCls [2, 3, 4]) s k
  else if cls (s[k]!).toNat = 6 then lineEndP s k
  else if pre2 s k 58 61 = true ∨ pre2 s k 45 62 = true then k + 2
  else k + 1

set_option maxHeartbeats 400000 in
theorem pieceEnd_any (s : ByteArray) (k : Int) (w : World) (hs : s.size ≤ 140737488355328) (hk : 0 ≤ k) (hk' : k < s.size) :
    Calls Tryd.prog 86 #[.string s, .int .i64 k] w fun e w' => e = .returned (.int .i64 (pieceEndP s k.toNat)) ∧ Below w.heap.size w w' := by
  obtain ⟨n, rfl⟩ := Int.eq_ofNat_of_zero_le hk
  have hn : n < s.size := by omega
  have hbyte : s[n].toNat < 256 := UInt8.toNat_lt _
  have HG : Hid (s[n]! = s[n]) := Lib.hid (by simp [hn])
  go_enter Tryd.func86, Tryd.ntmps86
  go_wp2_with (first
    | (go_at_call 104; refine (classOf_any _ _ (by omega) (by omega)).mono ?_; rintro e w' ⟨rfl, rfl⟩)
    | (go_at_call 85; refine (past3 s _ _ (le_max hs) (by omega) (by omega)).mono ?_; rintro e w' ⟨rfl, rfl⟩)
    | (go_at_call 57; refine (lineEnd_any s _ _ (le_max hs) (by omega) (by omega)).mono ?_; rintro e w' ⟨rfl, rfl⟩)
    | (go_at_call 105; refine (hasPrefix2 _ _ _ _ _).mono ?_; rintro e w' ⟨rfl, rfl⟩))
  all_goals go_ret
  all_goals refine ⟨ret_int ?_, ?_⟩
  all_goals first
    | exact Below.refl _ _
    | exact (Below.refl _ _).alloc (Nat.le_refl _) _
    | skip
  all_goals (rw [Int.toNat_natCast]; unfold pieceEndP; rw [HG.out]; simp only [beq_iff_eq, beq_eq_false_iff_ne, ne_eq] at *)
  all_goals simp [*]
end Go.Proofs.YtjadjmkbjolklaaDoor
