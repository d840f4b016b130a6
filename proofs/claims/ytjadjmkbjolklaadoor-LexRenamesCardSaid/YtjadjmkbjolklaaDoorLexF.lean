/- The contract of lex.kindOf. -/
import Derived.Test.YtjadjmkbjolklaaDoorLexE
namespace Go.Proofs.YtjadjmkbjolklaaDoor
open Go.RowKit

/-- The kind of a piece, and its error. -/
def kindP (s : ByteArray) : Int × Int :=
  if cls (s[0]!).toNat = 2 then (if isKw s = true then (3, 0) else if 12 < s.size then (1, 4) else (1, 0))
  else if cls (s[0]!).toNat = 4 then (2, numErr s)
  else if cls (s[0]!).toNat = 5 then (4, 0)
  else if cls (s[0]!).toNat = 6 then (5, 0)
  else (0, 4)

set_option maxHeartbeats 400000 in
set_option maxRecDepth 100000 in
theorem kindOf_any (s : ByteArray) (b : Nat) (w : World) (hs : s.size ≤ 140737488355328) (h0 : 0 < s.size) (hv : NumVars w) (hk : KwMap w b) :
    Calls Tryd.prog 87 #[.string s, .map (some b)] w fun e w' => e = .returned (.tuple #[.int .u8 (kindP s).1, .int .i64 (kindP s).2]) ∧ Below w.heap.size w w' := by
  have HV := Lib.hid hv
  clear hv
  have hl := kw_look hk s
  clear hk
  have HG : Hid (s[0]! = s[0]) := Lib.hid (by simp [h0])
  have hbyte : s[0].toNat < 256 := UInt8.toNat_lt _
  go_enter Tryd.func87, Tryd.ntmps87
  go_wp2_with (first
    | (go_at_call 104; refine (classOf_any _ _ (by omega) (by omega)).mono ?_; rintro e w' ⟨rfl, rfl⟩)
    | (go_at_call 106; refine (numberError_any s _ hs h0 HV.out).mono ?_; rintro e w' ⟨rfl, hb⟩))
  all_goals go_ret2
  all_goals refine ⟨ret_ii ?_ ?_, ?_⟩
  all_goals first
    | exact Below.refl _ _
    | assumption
    | (unfold kindP; rw [HG.out]; simp only [beq_iff_eq, beq_eq_false_iff_ne, ne_eq] at *; simp [*]; try (split <;> first | rfl | omega))
end Go.Proofs.YtjadjmkbjolklaaDoor
