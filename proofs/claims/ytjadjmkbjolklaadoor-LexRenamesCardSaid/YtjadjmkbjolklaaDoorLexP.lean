/- The contracts of lex.isName, Rename. -/
import Derived.Test.YtjadjmkbjolklaaDoorLexO
import Derived.Test.YtjadjmkbjolklaaDoorLexN
namespace Go.Proofs.YtjadjmkbjolklaaDoor
open Go.RowKit

set_option maxRecDepth 100000 in
theorem isName_any (s : ByteArray) (b : Nat) (w : World) (hs : s.size ≤ 140737488355328) (hv : NumVars w) (hk : KwMap w b) :
    Calls Tryd.prog 80 #[.string s, .map (some b)] w fun e w' => e = .returned (.bool (isRightP 1 s)) ∧ Below w.heap.size w w' := by
  have HV := Lib.hid hv
  have HK := Lib.hid hk
  clear hv hk
  go_enter Tryd.func80, Tryd.ntmps80
  go_wp2_with (go_at_call 96; refine (isRight_any 1 0 s b _ hs HV.out HK.out).mono ?_; rintro e w1 ⟨rfl, hb⟩)
  go_ret
  exact ⟨rfl, hb⟩
end Go.Proofs.YtjadjmkbjolklaaDoor
