/- The contract of the reference's Diff. -/
import Derived.Test.YtjadjmkbjolklaaGreatDoorDiffed
import Derived.Test.YtjadjmkbjolklaaGreatDoorRefE
import Derived.Test.YtjadjmkbjolklaaGreatDoorRefB
namespace Go.Proofs.YtjadjmkbjolklaaGreatDoor
open Go.RowKit

theorem list_get (s : ByteArray) (k : Nat) (h : k < s.size) : s.data.toList[k]? = some s[k] := by
  rw [List.getElem?_eq_getElem (by simpa using h)]
  rfl

theorem idx9 (s : ByteArray) (k : Nat) (h : k < s.size) (w : World) : (Instr.index 9 (.string s) (.int .i64 k)).run Tryz.prog w = .ok (.int .u8 s[k].toNat) w := by
  simp [Instr.index, go_sem, h]

theorem idx9b (s : ByteArray) (k : Nat) (h : k < s.size) (w : World) : (Instr.index 9 (.string s) (.int .i64 k)).run Tryz.prog w = .ok (.int .u8 (s[k]!).toNat) w := by
  rw [getBang s k h]
  exact idx9 s k h w

theorem rev_get (s : ByteArray) (k n : Nat) (h : n < s.size - k) : (s.data.toList.drop k).reverse[n]? = some (s[s.size - 1 - n]!) := by
  have hl : (s.data.toList.drop k).length = s.size - k := by simp
  rw [List.getElem?_reverse (by rw [hl]; exact h), hl, List.getElem?_drop, show k + (s.size - k - 1 - n) = s.size - 1 - n by omega, getBang s _ (by omega), list_get s _ (by omega)]

theorem spl_new' (w : World) (x : Spl) : SplIn (w.alloc (.cells #[.int .i64 x.from_, .int .i64 x.to_, .string x.text] 40)) (w.alloc (.cells #[.int .i64 x.from_, .int .i64 x.to_, .string x.text] 40)).heap.size (.slice (some ⟨w.heap.size, 0, none⟩) 1 1) [x] := by
  rw [World.size_alloc]
  exact spl_new w x

theorem diffSpl_at {a b : ByteArray} {k n : Nat} (hf : headP a.data.toList b.data.toList = k) (hd : headP (a.data.toList.drop k).reverse (b.data.toList.drop k).reverse = n) : diffSpl a b = ⟨k, (a.size : Int) - n, b.extract k (b.size - n)⟩ := by
  unfold diffSpl
  simp only [hf, hd]

def dn (a b : ByteArray) (k : Nat) : Nat := headP (a.data.toList.drop k).reverse (b.data.toList.drop k).reverse

end Go.Proofs.YtjadjmkbjolklaaGreatDoor
