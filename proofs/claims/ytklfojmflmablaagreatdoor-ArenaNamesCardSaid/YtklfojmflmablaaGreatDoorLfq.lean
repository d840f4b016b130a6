/- What the cards of ArenaNames needs: its row lists two variables more. -/
import Derived.Test.YtklfojmflmablaaGreatDoorLf
namespace Go.Proofs.YtklfojmflmablaaGreatDoor
open Go.ChangeShapes Go.WideShapes Go.ChangeAt Go.RowKit

def laid7 : List (String × DataW Unit) := [("math/bits.deBruijn32tab", Rows.laid_math_bits_deBruijn32tab), ("math/bits.deBruijn64tab", Rows.laid_math_bits_deBruijn64tab), ("internal/strconv.uint64pow10", Rows.laid_internal_strconv_uint64pow10), ("unicode/utf8.acceptRanges", Rows.laid_unicode_utf8_acceptRanges), ("strconv.ErrRange", Rows.laid_strconv_ErrRange), ("strconv.ErrSyntax", Rows.laid_strconv_ErrSyntax), ("unicode/utf8.first", Rows.laid_unicode_utf8_first)]
theorem laid_of7 {W : World} (hsh : W.ShapedOpen Tryz.prog) (h : laidMetH Tryz.prog laid7 W) : Laid W := by
  rw [MakeChecks.laidMetH_plain _ _ _ (by kernel_rfl)] at h
  have h := h.tail.tail.tail.tail
  obtain ⟨a1, s1, h1, _⟩ := laid_sentinel h gRange gRangeType Tryz.underlying170 row285 Tryz.underlying285 Tryz.underlying287 rfl rfl Tryz.underlying9 cells287 cells9
  obtain ⟨a2, s2, h2, _⟩ := laid_sentinel h.tail gSyntax gSyntaxType Tryz.underlying170 row285 Tryz.underlying285 Tryz.underlying287 rfl rfl Tryz.underlying9 cells287 cells9
  have q1 := var_cell gRange h1
  have q2 := var_cell gSyntax h2
  exact ⟨maxLen_of_shape hsh, ⟨_, _, q2.1⟩, ⟨_, _, q1.1⟩, q1.2⟩
theorem shape7 (os : Os) (args : Array Value) : ((World.laidAll Tryz.prog os laid7).forCall (fun _ _ => 0) ⟨#[], args, []⟩).Shaped Tryz.prog := World.shaped_of_ZipB (by kernel_rfl) (by kernel_rfl)
theorem met7 (os : Os) (args : Array Value) : laidMetH Tryz.prog laid7 ((World.laidAll Tryz.prog os laid7).forCall (fun _ _ => 0) ⟨#[], args, []⟩).memory := by
  rw [MakeChecks.laidMetH_plain _ _ _ (by kernel_rfl)]
  exact laidMet_laidAll _ (by kernel_rfl) (by kernel_rfl)
end Go.Proofs.YtklfojmflmablaaGreatDoor
