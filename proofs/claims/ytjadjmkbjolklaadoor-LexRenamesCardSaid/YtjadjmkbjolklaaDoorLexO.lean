/- The contracts of lex.isRight, isName. -/
import Derived.Test.YtjadjmkbjolklaaDoorLexF
import Derived.Test.YtjadjmkbjolklaaDoorPure3
import Derived.Test.YtjadjmkbjolklaaDoorLexG
import Derived.BigQuiet
import Derived.Deep.QuietTactic
import Derived.Deep.RegionWith
namespace Go.Proofs.YtjadjmkbjolklaaDoor
open Go.RowKit

/-- Is a token one as it stands alone? -/
def isRightP (kind : Int) (text : ByteArray) : Bool :=
  decide (0 < text.size) && (decide (¬ pieceEndP text 0 < text.size) && (decide ((kindP text).2 = 0) && (decide ((kindP text).1 = kind) && decide ((kindP text).1 ≠ 5))))

theorem ret_bool {a b : Bool} (h : a = b) : Ending.returned (.bool a) = .returned (.bool b) := by rw [h]

set_option maxRecDepth 100000 in
set_option maxHeartbeats 1000000 in
theorem isRight_any (k a : Int) (s : ByteArray) (b : Nat) (w : World) (hs : s.size ≤ 140737488355328) (hv : NumVars w) (hk : KwMap w b) :
    Calls Tryd.prog 96 #[.agg #[.int .u8 k, .string s, .int .i64 a], .map (some b)] w fun e w' => e = .returned (.bool (isRightP k s)) ∧ Below w.heap.size w w' := by
  have HV := Lib.hid hv
  have HK := Lib.hid hk
  clear hv hk
  by_cases h0 : s.size = 0
  · obtain rfl : s = ⟨#[]⟩ := by
      obtain ⟨⟨x⟩⟩ := s
      cases x with
      | nil => rfl
      | cons y r => simp [ByteArray.size] at h0
    clear h0
    go_enter Tryd.func96, Tryd.ntmps96
    go_wp2_with fail
    go_quiet (fail)
    go_wp2
    go_ret
    exact ⟨rfl, below_drewN ((Below.refl _ _).alloc (Nat.le_refl _) _) _⟩
  · have hne : s.toList.isEmpty = false := by
      rw [Lib.toList_data, List.isEmpty_eq_false_iff]
      intro e
      apply h0
      have := congrArg List.length e
      simpa using this
    have HPE : Hid (∀ w, Calls Tryd.prog 86 #[.string s, .int .i64 0] w fun e w' => e = .returned (.int .i64 (pieceEndP s 0)) ∧ Below w.heap.size w w') := fun w => pieceEnd_any s 0 w hs (by omega) (by omega)
    have e1 : (w.alloc (.cells #[.int .u8 k, .string s, .int .i64 a] 63)).cell? ⟨w.heap.size, 1, none⟩ = some (.string s) := by rw [World.cell?_alloc_at _ _ _ _ rfl]; rfl
    have e0 : (w.alloc (.cells #[.int .u8 k, .string s, .int .i64 a] 63)).cell? ⟨w.heap.size, 0, none⟩ = some (.int .u8 k) := by rw [World.cell?_alloc_at _ _ _ _ rfl]; rfl
    have hb1 := (Below.refl w.heap.size w).alloc (Nat.le_refl _) (.cells #[.int .u8 k, .string s, .int .i64 a] 63)
    have hz1 : w.heap.size < (w.alloc (.cells #[.int .u8 k, .string s, .int .i64 a] 63)).heap.size := by simp
    go_enter Tryd.func96, Tryd.ntmps96
    go_wp2_with fail
    obtain ⟨g, hg⟩ : ∃ g, g = w.heap.size := ⟨_, rfl⟩
    rw [← hg] at e1 e0 hz1 ⊢
    have hb1' : Below w.heap.size w (w.alloc (.cells #[.int .u8 k, .string s, .int .i64 a] 63)) := hb1
    clear hb1
    generalize w.alloc (.cells #[.int .u8 k, .string s, .int .i64 a] 63) = W1 at e1 e0 hb1' hz1 ⊢
    have HG := Lib.hid hg
    clear hg
    go_region_with (go_at_call 86; refine (HPE.out _).mono ?_; rintro e w2 ⟨rfl, hb2⟩; have e3 := (hb2.cell (p := ⟨g, 1, none⟩) hz1).trans e1)
    all_goals (
      have hz2 : g < w2.heap.size := by have := hb2.size; simp at this; omega
      have e4 := (hb2.cell (p := ⟨g, 0, none⟩) hz1).trans e0
      have HB := Lib.hid ((hb1'.drew).trans (hb2.mono (by rw [World.size_drew]; exact hb1'.size)))
      have HV2 := Lib.hid (HV.out.keep HB.out)
      have HK2 := Lib.hid (HK.out.below HB.out HK.out.lt)
      clear e0 e1 hb2 HPE)
    all_goals by_cases hpe : pieceEndP s 0 < s.size
    all_goals go_wp2_with (go_at_call 87; refine (kindOf_any s b _ hs (by omega) HV2.out HK2.out).mono ?_; rintro e w3 ⟨rfl, hb3⟩; have e5 := (hb3.cell (p := ⟨g, 0, none⟩) hz2).trans e4)
    all_goals go_ret
    all_goals have hpos : 0 < s.size := by omega
    all_goals refine ⟨ret_bool ?_, ?_⟩
    all_goals first
      | exact HB.out
      | exact HB.out.trans (hb3.mono HB.out.size)
      | skip
    all_goals (unfold isRightP; simp [*]; try (rw [Bool.eq_iff_iff]; simp))
end Go.Proofs.YtjadjmkbjolklaaDoor
