/- Package arena: Parse at the text that awake reads. -/
import Derived.Test.YtklfojmflmablaaGreatDoorPa
namespace Go.Proofs.YtklfojmflmablaaGreatDoor
open Go Go.RowKit Go.Shelf

theorem numTx0 : numTx 0 = ⟨#[48]⟩ := by unfold numTx; rw [show Lib.decDigits (0 : Int).toNat = [48] by rw [Lib.decDigits, dif_pos (by decide)]; rfl]
theorem numTx1 : numTx 1 = ⟨#[49]⟩ := by unfold numTx; rw [show Lib.decDigits (1 : Int).toNat = [49] by rw [Lib.decDigits, dif_pos (by decide)]; rfl]
theorem numTx2 : numTx 2 = ⟨#[50]⟩ := by unfold numTx; rw [show Lib.decDigits (2 : Int).toNat = [50] by rw [Lib.decDigits, dif_pos (by decide)]; rfl]
theorem numTx3 : numTx 3 = ⟨#[51]⟩ := by unfold numTx; rw [show Lib.decDigits (3 : Int).toNat = [51] by rw [Lib.decDigits, dif_pos (by decide)]; rfl]
def lit : ByteArray := ⟨#[49, 46, 50, 61, 49]⟩
theorem kind0 : kindMv lit 0 = ⟨1, 0, 1, 0⟩ := by kernel_rfl
theorem kind1 : kindMv lit 1 = ⟨1, 2, 2, 1⟩ := by kernel_rfl
theorem kind2 : kindMv lit 2 = ⟨1, 0, 3, 0⟩ := by kernel_rfl
theorem itoaAt_small (w : World) (n : Int) (h0 : 0 ≤ n) (h : n < 100) : ItoaAt numTx w n := fun W _ => (itoa_any n W h0 h).mono (by rintro e w' ⟨rfl, rfl⟩; exact ⟨rfl, Below.refl _ _⟩)
theorem text_small (m : Mv) (w : World) (h1 : 0 ≤ m.id ∧ m.id < 100) (h2 : 0 ≤ m.arg ∧ m.arg < 100) (h3 : 0 ≤ m.n ∧ m.n < 100) :
    Calls Tryz.prog 42 #[mvV m] w fun e w' => e = .returned (.tuple #[.string (textRes numTx m).1, .int .i64 (textRes numTx m).2]) ∧ Below w.heap.size w w' :=
  text_any numTx m w (itoaAt_small w _ h1.1 h1.2) (itoaAt_small w _ h2.1 h2.2) (itoaAt_small w _ h3.1 h3.2) (Nat.le_trans (numTx_size h1.1 h1.2) (by omega)) (Nat.le_trans (numTx_size h2.1 h2.2) (by omega)) (Nat.le_trans (numTx_size h3.1 h3.2) (by omega))
theorem lit_fits (w : World) (h : Laid w) : ∀ i, i < 3 → Fits numTx w lit i := by
  intro i hi
  have hsz : ∀ i : Nat, i < 3 → lit.size < 4294967281 ∧ (cut1 lit ((signOf ((i : Int) + 1)).getD ⟨#[]⟩)).size < 4294967281 ∧ (cut2 lit ((signOf ((i : Int) + 1)).getD ⟨#[]⟩)).size ≤ 281474976710656 ∧ (cut1 (cut1 lit ((signOf ((i : Int) + 1)).getD ⟨#[]⟩)) ⟨#[46]⟩).size ≤ 281474976710656 ∧ (cut2 (cut1 lit ((signOf ((i : Int) + 1)).getD ⟨#[]⟩)) ⟨#[46]⟩).size ≤ 281474976710656 := by
    intro i hi
    match i, hi with
    | 0, _ => decide
    | 1, _ => decide
    | 2, _ => decide
  obtain ⟨s0, s1, s2, s3, s4⟩ := hsz i hi
  refine ⟨fun W hW => readMove_any lit _ _ W (h.later hW) s0 s1 s2 s3 s4, fun W hW => ?_⟩
  match i, hi with
  | 0, _ => rw [kind0]; exact text_small _ W (by decide) (by decide) (by decide)
  | 1, _ => rw [kind1]; exact text_small _ W (by decide) (by decide) (by decide)
  | 2, _ => rw [kind2]; exact text_small _ W (by decide) (by decide) (by decide)
theorem tr0 : textRes numTx ⟨1, 0, 1, 0⟩ = (⟨#[49, 63]⟩, 0) := by
  simp only [textRes, signOf, hasTx, placeTx, valTx]
  rw [numTx1]
  kernel_rfl
theorem tr1 : textRes numTx ⟨1, 2, 2, 1⟩ = (lit, 0) := by
  simp only [textRes, signOf, hasTx, placeTx, valTx]
  rw [numTx1, numTx2]
  kernel_rfl
theorem tr2 : textRes numTx ⟨1, 0, 3, 0⟩ = (⟨#[49, 33, 48]⟩, 0) := by
  simp only [textRes, signOf, hasTx, placeTx, valTx]
  rw [numTx1, numTx0]
  kernel_rfl
theorem bytes_ne {a b : ByteArray} (h : a.data.toList ≠ b.data.toList) : (a.toList == b.toList) = false := by
  rw [beq_eq_false_iff_ne]
  rw [ByteArray.toList_eq, ByteArray.toList_eq]
  exact h
theorem ok0 : okB numTx lit 0 = false := by
  unfold okB
  rw [kind0, tr0]
  exact (Bool.and_eq_false_iff.2 (.inr (bytes_ne (by decide))))
theorem ok1 : okB numTx lit 1 = true := by
  unfold okB
  rw [kind1, tr1]
  simp
theorem ok2 : okB numTx lit 2 = false := by
  unfold okB
  rw [kind2, tr2]
  exact (Bool.and_eq_false_iff.2 (.inr (bytes_ne (by decide))))
theorem parse_lit (w : World) (h : Laid w) : Calls Tryz.prog 43 #[.string lit] w fun e w' => e = .returned (.tuple #[mvV ⟨1, 2, 2, 1⟩, .int .i64 0]) ∧ Below w.heap.size w w' := by
  refine parse_any numTx lit w (⟨1, 2, 2, 1⟩, 0) (lit_fits w h) ?_ ?_
  · intro i hi ho
    match i, hi with
    | 0, _ => rw [ok0] at ho; cases ho
    | 1, _ => rw [kind1]
    | 2, _ => rw [ok2] at ho; cases ho
  · intro hn
    have := hn 1 (by omega)
    rw [ok1] at this
    cases this
end Go.Proofs.YtklfojmflmablaaGreatDoor
