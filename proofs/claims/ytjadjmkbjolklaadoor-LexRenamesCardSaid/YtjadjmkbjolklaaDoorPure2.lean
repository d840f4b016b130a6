/- More plain functions on bytes. -/
import Derived.Test.YtjadjmkbjolklaaDoorPure
namespace Go.Proofs.YtjadjmkbjolklaaDoor
open Go

theorem indexByte_span (c : UInt8) : ∀ l : List UInt8, (Lib.indexByte l c < 0 → (l.takeWhile (· != c)).length = l.length) ∧ (0 ≤ Lib.indexByte l c → ((l.takeWhile (· != c)).length : Int) = Lib.indexByte l c) ∧ -1 ≤ Lib.indexByte l c ∧ Lib.indexByte l c < l.length + 1
  | [] => by simp [Lib.indexByte]
  | b :: l => by
    have ih := indexByte_span c l
    unfold Lib.indexByte
    by_cases hb : b = c
    · subst hb
      simp
      omega
    · have h1 : (b == c) = false := by simp [hb]
      have h2 : (b != c) = true := by simp [hb]
      simp only [List.takeWhile_cons, h2, h1, Bool.false_eq_true, if_false, if_true, List.length_cons]
      by_cases hm : Lib.indexByte l c = -1
      · simp only [hm, beq_self_eq_true, if_true]
        have := ih.1 (by omega)
        omega
      · have h3 : (Lib.indexByte l c == -1) = false := by simp [hm]
        simp only [h3, Bool.false_eq_true, if_false]
        have := ih.2.1
        omega

/-- The place of the first line feed from a place on; the end if there is none. -/
def lineEndP (s : ByteArray) (k : Nat) : Nat := pastP (fun c => c != 10) s k
end Go.Proofs.YtjadjmkbjolklaaDoor
