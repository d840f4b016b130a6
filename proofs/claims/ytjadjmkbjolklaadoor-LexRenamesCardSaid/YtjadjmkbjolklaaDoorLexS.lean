/- The contract of lex.At. -/
import Derived.Test.YtjadjmkbjolklaaDoorPure8
import Derived.Test.YtjadjmkbjolklaaDoorLexR
namespace Go.Proofs.YtjadjmkbjolklaaDoor
open Go.RowKit

set_option maxRecDepth 100000 in
set_option maxHeartbeats 1000000 in
theorem at_any (s : ByteArray) (line col : Int) (w : World) (hs : s.size ≤ 140737488355328) (hl : line ≤ 9223372036854775807) (hc : col ≤ 9223372036854775807) :
    Calls Tryd.prog 25 #[.string s, .agg #[.int .i64 line, .int .i64 col]] w fun e w' => ∃ r x, e = .returned (.tuple #[.int .i64 r, .int .i64 x]) ∧ AtSpec s line col r x ∧ Below w.heap.size w w' := by
  have hnew := Box2.new w line col
  have hbw := (Below.refl w.heap.size w).alloc (Nat.le_refl _) (.cells #[.int .i64 line, .int .i64 col] 32)
  have hz : (w.alloc (.cells #[.int .i64 line, .int .i64 col] 32)).heap.size = w.heap.size + 1 := by simp
  by_cases he : (textErr s).2 = 0
  · have HE := Lib.hid he
    have heb : ((textErr s).2 != 0) = false := by simpa using he
    clear he
    by_cases h0 : line < 1
    · go_enter Tryd.func25, Tryd.ntmps25
      go_wp2_with (go_at_call 48; refine (textError_any s _ (le_max hs)).mono ?_; rintro e w1 ⟨rfl, hb1⟩; have hx := hnew.below hb1 (by omega); have c0 := hx.c0; have c1 := hx.c1)
      go_ret2
      exact ⟨_, _, rfl, at_small HE.out (.inl h0), hbw.trans (hb1.mono (by omega))⟩
    · by_cases h1 : col < 1
      · go_enter Tryd.func25, Tryd.ntmps25
        go_wp2_with (go_at_call 48; refine (textError_any s _ (le_max hs)).mono ?_; rintro e w1 ⟨rfl, hb1⟩; have hx := hnew.below hb1 (by omega); have c0 := hx.c0; have c1 := hx.c1)
        go_ret2
        exact ⟨_, _, rfl, at_small HE.out (.inr h1), hbw.trans (hb1.mono (by omega))⟩
      · have q0 := lineEndP_le s 0 (Nat.zero_le _)
        go_enter Tryd.func25, Tryd.ntmps25
        go_wp2_with (first
          | (go_at_call 48; refine (textError_any s _ (le_max hs)).mono ?_; rintro e w1 ⟨rfl, hb1⟩; have hx := hnew.below hb1 (by omega); have c0 := hx.c0; have c1 := hx.c1)
          | (go_at_call 57; refine (lineEnd_any s 0 _ (le_max hs) (by omega) (by omega)).mono ?_; rintro e w' ⟨rfl, rfl⟩))
        have HB := Lib.hid (hbw.trans (hb1.mono (by omega)))
        go_loop [8, 9, 31] (fun f e i => ∃ (F i' : Nat), F ≤ s.size ∧ f = .int .i64 F ∧ e = .int .i64 (lineEndP s F) ∧ i = .int .i64 i' ∧ lineP s F = i' + 1 ∧ colP s F = 1 ∧ (i' : Int) ≤ line - 1) (fun _ _ i => (line - 1 - intOf i).toNat)
        case atStart => exact ⟨0, 0, by omega, rfl, rfl, rfl, rfl, rfl, by omega⟩
        case round =>
          obtain ⟨F, i', hF, rfl, rfl, rfl, hlp, hcp, hi'⟩ := hrel
          have r1 := lineEndP_le s F hF
          have r2 := lineEndP_ge s F
          by_cases hlt : (i' : Int) < line - 1
          · by_cases hend : lineEndP s F = s.size
            · have hb2 : ((lineEndP s F : Int) == s.size) = true := by simp; omega
              go_wp2
              go_ret2
              exact ⟨_, _, rfl, at_past HE.out hF hend (by omega), HB.out⟩
            · have hb2 : ((lineEndP s F : Int) == s.size) = false := by simp; omega
              have r3 := line_next s F hF (by omega)
              go_wp2_with (go_at_call 57; refine (lineEnd_any s ((lineEndP s F : Int) + 1) _ (le_max hs) (by omega) (by omega)).mono ?_; rintro e w' ⟨rfl, rfl⟩)
              exact ⟨⟨lineEndP s F + 1, i' + 1, by omega, by go_num, rfl, by go_num, by omega, r3.2, by omega⟩, by simp [intOf]; omega⟩
          · by_cases hw : (lineEndP s F : Int) - F < col - 1
            · go_wp2
              go_ret2
              exact ⟨_, _, rfl, at_wide HE.out hF (by omega) hcp hw, HB.out⟩
            · go_wp2
              go_ret2
              exact ⟨_, _, rfl, at_there HE.out hF (by omega) hcp (by omega) (by omega), HB.out⟩
  · have HE := Lib.hid he
    have heb : ((textErr s).2 != 0) = true := by simpa using he
    clear he
    go_enter Tryd.func25, Tryd.ntmps25
    go_wp2_with (go_at_call 48; refine (textError_any s _ (le_max hs)).mono ?_; rintro e w1 ⟨rfl, hb1⟩)
    go_ret2
    exact ⟨_, _, rfl, .inl ⟨HE.out, rfl, rfl⟩, hbw.trans (hb1.mono (by omega))⟩
end Go.Proofs.YtjadjmkbjolklaaDoor
