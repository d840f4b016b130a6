/- The contracts of lex's functions on bytes. -/
import Derived.WalkKit
import Derived.WalkSpells
import Derived.Outline
import Derived.Lib.Hide
import Derived.Test.YtjadjmkbjolklaaDoorShelf
import Derived.Test.YtjadjmkbjolklaaDoorPure
namespace Go.Proofs.YtjadjmkbjolklaaDoor
open Go.RowKit

theorem ret_int {k : IntKind} {a b : Int} (h : a = b) : Ending.returned (.int k a) = .returned (.int k b) := by rw [h]

set_option maxHeartbeats 400000 in
theorem classOf_any (b : Int) (w : World) (hb : 0 ≤ b) (hb' : b ≤ 255) :
    Calls Tryd.prog 104 #[.int .u8 b] w fun e w' => e = .returned (.int .u8 (cls b)) ∧ w = w' := by
  go_enter Tryd.func104, Tryd.ntmps104
  go_wp2_with (go_at_call 94; refine (Tryd.strings_IndexByte _ _ _).mono ?_; rintro e w' ⟨rfl, rfl⟩)
  all_goals go_ret
  all_goals refine ⟨ret_int ?_, rfl⟩
  all_goals unfold cls
  all_goals (simp only [beq_iff_eq, beq_eq_false_iff_ne, ne_eq, marksL] at *)
  all_goals (repeat' split)
  all_goals first | rfl | omega | exact (if_pos ‹_›).symm | exact (if_neg (Int.not_le.2 ‹_›)).symm

end Go.Proofs.YtjadjmkbjolklaaDoor
