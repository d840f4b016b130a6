/- The contract of LexDiffs. -/
import Derived.Test.YtjadjmkbjolklaaDoorRefF
import Derived.Test.YtjadjmkbjolklaaDoorAwakeB
namespace Go.Proofs.YtjadjmkbjolklaaDoor
open Go.RowKit

theorem diffRes_len (a b : ByteArray) : (diffRes a b).1.length ≤ 1 := by
  unfold diffRes
  repeat' split
  all_goals simp

theorem sameS_refl (l : List Spl) : sameS l l = true := (sameS_iff l l).2 rfl

set_option maxRecDepth 100000 in
set_option maxHeartbeats 1000000 in
theorem diffs_any (a b : ByteArray) (w : World) (ha : a.size ≤ 140737488355328) (hb : b.size ≤ 140737488355328) (hv : NumVars w) :
    Calls Tryd.prog 7 #[.string a, .string b] w fun e w' => e = .returned (.bool true) ∧ Below w.heap.size w w' := by
  have HV := Lib.hid hv
  clear hv
  by_cases h1 : 3000 < a.size
  · go_enter Tryd.func7, Tryd.ntmps7
    go_wp2_with (go_at_call 17; refine (awake_any _ HV.out).mono ?_; rintro e w1 ⟨rfl, hb1⟩)
    go_ret
    exact ⟨rfl, hb1⟩
  · by_cases h2 : 3000 < b.size
    · go_enter Tryd.func7, Tryd.ntmps7
      go_wp2_with (go_at_call 17; refine (awake_any _ HV.out).mono ?_; rintro e w1 ⟨rfl, hb1⟩)
      go_ret
      exact ⟨rfl, hb1⟩
    · have C41 := Lib.hid (fun w => diff_any a b w ha hb)
      have C42 := Lib.hid (fun w => refDiff_any a b w ha hb)
      have hlen := diffRes_len a b
      generalize (diffRes a b).1 = l at C41 C42 hlen
      generalize (diffRes a b).2 = x at C41 C42
      have HL : Hid (l.length ≤ 140737488355328) := Lib.hid (by omega)
      clear hlen
      go_enter Tryd.func7, Tryd.ntmps7
      go_wp2_with (first
        | (go_at_call 41; refine (C41.out _).mono ?_; rintro e w1 ⟨v1, rfl, hb1, hs1⟩; have HS1 := Lib.hid hs1; have HB1 := Lib.hid hb1; clear hb1 hs1 C41)
        | (go_at_call 42; refine (C42.out _).mono ?_; rintro e w2 ⟨v2, rfl, hb2, hs2⟩; have HS2 := Lib.hid hs2; have HS1b := Lib.hid ((HS1.out.below hb2).more hb2.size); have HB2 := Lib.hid (HB1.out.trans (hb2.mono HB1.out.size)); clear hb2 hs2 C42)
        | (go_at_call 40; refine (sameSplices_any _ _ l l _ HL.out HL.out HS1b.out HS2.out).mono ?_; rintro e w3 ⟨rfl, hb3⟩; rw [sameS_refl]; have HB3 := Lib.hid (HB2.out.trans (hb3.mono HB2.out.size)); clear hb3)
        | (go_at_call 17; refine (awake_any _ (HV.out.keep HB3.out)).mono ?_; rintro e w4 ⟨rfl, hb4⟩; have HB4 := Lib.hid (HB3.out.trans (hb4.mono HB3.out.size)); clear hb4))
      go_ret
      exact ⟨rfl, HB4.out⟩
end Go.Proofs.YtjadjmkbjolklaaDoor
