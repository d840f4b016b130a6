/- The contracts of the reference's numberError, Token. -/
import Derived.Test.YtjadjmkbjolklaaGreatDoorTokD
namespace Go.Proofs.YtjadjmkbjolklaaGreatDoor
open Go.RowKit

theorem dg_eq (c : UInt8) : dgB (c.toNat : Int) = isDig c := by
  unfold dgB isDig
  rw [Bool.eq_iff_iff]
  simp only [Bool.and_eq_true, decide_eq_true_eq]
  omega

theorem idxb (s : ByteArray) (k : Nat) (h : k < s.size) (w : World) : (Instr.index 9 (.string s) (.int .i64 k)).run Tryz.prog w = .ok (.int .u8 (s[k]!).toNat) w := by
  rw [getBang s k h]
  simp [Instr.index, go_sem, h]

theorem idx00 (s : ByteArray) (h : 0 < s.size) (w : World) : (Instr.index 9 (.string s) (.int .i64 0)).run Tryz.prog w = .ok (.int .u8 (s[0]!).toNat) w := by
  have := idxb s 0 h w
  simpa using this

theorem numS {a b : Int} (h : a = b) : Value.int .i64 a = .int .i64 b := by rw [h]

end Go.Proofs.YtjadjmkbjolklaaGreatDoor
