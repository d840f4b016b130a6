/- Package arena: texts of base types, and of types without parameters. -/
import Derived.Test.YtklfojmflmablaaGreatDoorShelf
import Derived.Test.YtklfojmflmablaaGreatDoorCkB
namespace Go.Proofs.YtklfojmflmablaaGreatDoor
open Go Go.RowKit Go.Shelf

def numTx (n : Int) : ByteArray := ⟨(Lib.decDigits n.toNat).toArray⟩
def baseTx (b : Bs) : ByteArray := ((if b.cell then (⟨#[99, 101, 108, 108]⟩ : ByteArray) else ⟨#[105, 110, 116]⟩) ++ (⟨#[32]⟩ : ByteArray)) ++ numTx b.n
theorem dec_len {u : Nat} (h : u < 100) : (Lib.decDigits u).length ≤ 2 := by
  rw [Lib.decDigits]
  split
  · simp
  · rw [Lib.decDigits, dif_pos (by omega)]
    simp
theorem numTx_size {n : Int} (h0 : 0 ≤ n) (h : n < 100) : (numTx n).size ≤ 2 := by
  have := dec_len (u := n.toNat) (by omega)
  simpa [numTx, ByteArray.size] using this

theorem itoa_any (n : Int) (w : World) (h0 : 0 ≤ n) (h : n < 100) : Calls Tryz.prog 169 #[.int .i64 n] w fun e w' => e = .returned (.string (numTx n)) ∧ w' = w := by
  have := Tryz.strconv_Itoa_small n.toNat (by omega) w
  rw [show ((n.toNat : Nat) : Int) = n by omega] at this
  exact this

set_option maxRecDepth 100000 in
theorem baseText_any (b : Bs) (w : World) (h0 : 0 ≤ b.n) (h : b.n < 100) : Calls Tryz.prog 154 #[bsV b] w fun e w' => e = .returned (.string (baseTx b)) ∧ Below w.heap.size w w' := by
  obtain ⟨ce, n⟩ := b
  dsimp only at h0 h
  have HB := Lib.hid ((Below.refl _ w).alloc (Nat.le_refl _) (.cells #[.bool ce, .int .i64 n] 24))
  have CI := Lib.hid (fun w => itoa_any n w h0 h)
  have hsz := numTx_size h0 h
  unfold bsV baseTx
  obtain ⟨T, hT⟩ : ∃ T, numTx n = T := ⟨_, rfl⟩
  rw [hT] at CI hsz
  dsimp only
  rw [hT]
  clear hT h0 h
  cases ce with
  | false =>
    go_enter Tryz.func154, Tryz.ntmps154
    go_wp2_with (go_at_call 169; refine (CI.out _).mono ?_; rintro e w2 ⟨rfl, rfl⟩)
    go_ret
    exact ⟨rfl, HB.out⟩
  | true =>
    go_enter Tryz.func154, Tryz.ntmps154
    go_wp2_with (go_at_call 169; refine (CI.out _).mono ?_; rintro e w2 ⟨rfl, rfl⟩)
    go_ret
    exact ⟨rfl, HB.out⟩

theorem baseTx_size {b : Bs} (h0 : 0 ≤ b.n) (h : b.n < 100) : (baseTx b).size ≤ 7 := by
  have := numTx_size h0 h
  unfold baseTx
  rw [ByteArray.size_append, ByteArray.size_append]
  have h1 : ((if b.cell then (⟨#[99, 101, 108, 108]⟩ : ByteArray) else ⟨#[105, 110, 116]⟩)).size ≤ 4 := by split <;> decide
  have h2 : (⟨#[32]⟩ : ByteArray).size = 1 := by decide
  omega

set_option maxRecDepth 100000 in
/-- The text of a type without parameters. -/
theorem typeText_none (A : Option Addr) (c : Nat) (r : Bs) (w : World) (h0 : 0 ≤ r.n) (h : r.n < 100) : Calls Tryz.prog 157 #[tyV (.slice A 0 c) r] w fun e w' => e = .returned (.string (baseTx r)) ∧ Below w.heap.size w w' := by
  have HB := Lib.hid ((Below.refl _ w).alloc (Nat.le_refl _) (.cells #[.slice A 0 c, .bool r.cell, .int .i64 r.n] 64))
  have CI := Lib.hid (fun w => baseText_any r w h0 h)
  unfold tyV
  unfold bsV at CI
  clear h0 h
  go_enter Tryz.func157, Tryz.ntmps157
  go_wp2_with (go_at_call 154; refine (CI.out _).mono ?_; rintro e w2 ⟨rfl, hb2⟩)
  go_ret
  exact ⟨rfl, HB.out.trans (hb2.mono HB.out.size)⟩
end Go.Proofs.YtklfojmflmablaaGreatDoor
