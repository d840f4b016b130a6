/- ArenaNames: the document's other examples, and errors. -/
import Derived.Test.YtklfojmflmablaaGreatDoorRda
import Derived.Test.YtklfojmflmablaaGreatDoorLd
import Derived.Test.YtklfojmflmablaaGreatDoorGh
import Derived.Test.YtklfojmflmablaaGreatDoorGq
import Derived.Test.YtklfojmflmablaaGreatDoorPc
import Derived.Test.YtklfojmflmablaaGreatDoorAw
import Derived.Deep.CutRange
/- What they answer, and the calls at them. -/
namespace Go.Proofs.YtklfojmflmablaaGreatDoor
open Go Go.RowKit Go.Shelf

theorem na_o1 : otherRes exAr ⟨1, 1, 3, 2⟩ = (false, 0) := by decide +kernel
theorem na_o2 : otherRes exAr ⟨2, 0, 2, 1⟩ = (false, 0) := by decide +kernel
theorem na_a1 : ansRes exAr ⟨1, 2, 2, 1⟩ = ([⟨1, 2, 3, -1⟩, ⟨1, 2, 3, 0⟩], 0) := by decide +kernel
theorem na_a2 : (ansRes exAr ⟨2, 0, 2, 1⟩).2 = 0 ∧ (ansRes exAr ⟨2, 0, 2, 1⟩).1.length = 1 := by decide +kernel
theorem na_a3 : (ansRes exAr ⟨2, 0, 3, 0⟩).2 = 2 ∧ (ansRes exAr ⟨2, 0, 3, 0⟩).1.length = 0 := by decide +kernel
theorem na_h1 : hasRes exAr ⟨2, 0, 3, -1⟩ = (false, 0) := by decide +kernel
theorem na_h2 : hasRes exAr ⟨0, 0, 3, 2⟩ = (false, 0) := by decide +kernel
theorem na_u : (underOf exAr ⟨3, 0, 1, 0⟩).2 = 7 ∧ (underOf exAr ⟨3, 0, 1, 0⟩).1.length = 0 := by decide +kernel
theorem na_p : foundRes exAr 1 3 = (⟨false, 0⟩, 7) := by decide +kernel
theorem na_i : innerRes exAr 0 = (zeroAr, 7) := by decide +kernel
def zTy : Ty := ⟨[], ⟨false, 0⟩⟩
theorem na_d8 : addRes exAr [zTy, zTy, zTy, zTy, zTy, zTy, zTy, zTy] = (zeroAr, 5) := by decide +kernel
theorem na_d1 : addRes exAr [zTy] = (zeroAr, 4) := by decide +kernel
def lit2 : ByteArray := ⟨#[49, 46, 48, 63]⟩
theorem na_k0 : kindMv lit2 0 = ⟨1, 0, 1, 0⟩ := by kernel_rfl
theorem na_k1 : kindMv lit2 1 = ⟨1, 0, 2, 0⟩ := by kernel_rfl
theorem na_k2 : kindMv lit2 2 = ⟨1, 0, 3, 0⟩ := by kernel_rfl
def lit3 : ByteArray := ⟨#[105, 110, 116, 32, 48]⟩
def lit4 : ByteArray := ⟨#[105, 110, 116, 32, 50, 59, 106, 117, 109, 112, 115]⟩
theorem na_r3 : rdArena lit3 = ⟨[], ⟨false, 0⟩, false⟩ := by kernel_rfl
theorem na_r4 : rdArena lit4 = ⟨[], ⟨false, 0⟩, false⟩ := by kernel_rfl
theorem na_bad : checkRes ⟨[], ⟨false, 0⟩, false⟩ = 4 := by decide +kernel
theorem na_c1 : checkRes ⟨[⟨[⟨false, 1⟩], ⟨true, 1⟩⟩], ⟨false, 1⟩, false⟩ = 4 := by decide +kernel
theorem na_c2 : checkRes ⟨[], ⟨false, 65⟩, false⟩ = 4 := by decide +kernel
theorem na_read {s : ByteArray} (h : rdArena s = ⟨[], ⟨false, 0⟩, false⟩) : readR s = (zeroAr, 4) := by
  unfold readR
  rw [h, if_neg]
  intro h2
  have := h2.1
  unfold showRes at this
  rw [na_bad] at this
  revert this
  decide
theorem nb_o1 (A : Option Addr) (c : Nat) (w : World) (hv : TyIn w w.heap.size (.slice A 2 c) exAr.ids) : Calls Tryz.prog 29 #[.agg #[.slice A 2 c, .bool false, .int .i64 2, .bool false], .agg #[.int .i64 1, .int .i64 1, .int .u8 3, .int .i64 2]] w fun e w' => e = .returned (.tuple #[.bool false, .int .i64 0]) ∧ Below w.heap.size w w' :=
  (isOther_any (.slice A 2 c) exAr ⟨1, 1, 3, 2⟩ w (by decide) (by decide) hv).mono (by
    rintro e w' ⟨rfl, hb⟩
    exact ⟨by rw [na_o1], hb⟩)
theorem nb_o2 (A : Option Addr) (c : Nat) (w : World) (hv : TyIn w w.heap.size (.slice A 2 c) exAr.ids) : Calls Tryz.prog 29 #[.agg #[.slice A 2 c, .bool false, .int .i64 2, .bool false], .agg #[.int .i64 2, .int .i64 0, .int .u8 2, .int .i64 1]] w fun e w' => e = .returned (.tuple #[.bool false, .int .i64 0]) ∧ Below w.heap.size w w' :=
  (isOther_any (.slice A 2 c) exAr ⟨2, 0, 2, 1⟩ w (by decide) (by decide) hv).mono (by
    rintro e w' ⟨rfl, hb⟩
    exact ⟨by rw [na_o2], hb⟩)
theorem nb_h1 (A : Option Addr) (c : Nat) (w : World) (hv : TyIn w w.heap.size (.slice A 2 c) exAr.ids) : Calls Tryz.prog 28 #[.agg #[.slice A 2 c, .bool false, .int .i64 2, .bool false], .agg #[.int .i64 2, .int .i64 0, .int .u8 3, .int .i64 (-1)]] w fun e w' => e = .returned (.tuple #[.bool false, .int .i64 0]) ∧ Below w.heap.size w w' :=
  (arHas_any (.slice A 2 c) exAr ⟨2, 0, 3, (-1)⟩ w (by decide) (by decide) hv).mono (by
    rintro e w' ⟨rfl, hb⟩
    exact ⟨by rw [na_h1], hb⟩)
theorem nb_h2 (A : Option Addr) (c : Nat) (w : World) (hv : TyIn w w.heap.size (.slice A 2 c) exAr.ids) : Calls Tryz.prog 28 #[.agg #[.slice A 2 c, .bool false, .int .i64 2, .bool false], .agg #[.int .i64 0, .int .i64 0, .int .u8 3, .int .i64 2]] w fun e w' => e = .returned (.tuple #[.bool false, .int .i64 0]) ∧ Below w.heap.size w w' :=
  (arHas_any (.slice A 2 c) exAr ⟨0, 0, 3, 2⟩ w (by decide) (by decide) hv).mono (by
    rintro e w' ⟨rfl, hb⟩
    exact ⟨by rw [na_h2], hb⟩)
theorem nb_a1 (A : Option Addr) (c : Nat) (w : World) (hv : TyIn w w.heap.size (.slice A 2 c) exAr.ids) : Calls Tryz.prog 30 #[.agg #[.slice A 2 c, .bool false, .int .i64 2, .bool false], .agg #[.int .i64 1, .int .i64 2, .int .u8 2, .int .i64 1]] w fun e w' => ∃ A' c', e = .returned (.tuple #[.slice A' 2 c', .int .i64 0]) ∧ Hid (MvIn w' w'.heap.size (.slice A' 2 c') [⟨1, 2, 3, -1⟩, ⟨1, 2, 3, 0⟩]) ∧ Below w.heap.size w w' :=
  (answers_call (.slice A 2 c) exAr ⟨1, 2, 2, 1⟩ w (by decide) (by decide) hv).mono (by
    rintro e w' ⟨x, rfl, ho, hb⟩
    rw [na_a1] at ho ⊢
    obtain ⟨A', c', rfl⟩ := own_slice ho
    exact ⟨A', c', rfl, Lib.hid (mvIn_own ho), hb⟩)
theorem nb_a2 (A : Option Addr) (c : Nat) (w : World) (hv : TyIn w w.heap.size (.slice A 2 c) exAr.ids) : Calls Tryz.prog 30 #[.agg #[.slice A 2 c, .bool false, .int .i64 2, .bool false], .agg #[.int .i64 2, .int .i64 0, .int .u8 2, .int .i64 1]] w fun e w' => ∃ A' c', e = .returned (.tuple #[.slice A' 1 c', .int .i64 0]) ∧ Below w.heap.size w w' :=
  (answers_call (.slice A 2 c) exAr ⟨2, 0, 2, 1⟩ w (by decide) (by decide) hv).mono (by
    rintro e w' ⟨x, rfl, ho, hb⟩
    obtain ⟨A', c', rfl⟩ := own_slice ho
    rw [na_a2.1, na_a2.2]
    exact ⟨A', c', rfl, hb⟩)
theorem nb_a3 (A : Option Addr) (c : Nat) (w : World) (hv : TyIn w w.heap.size (.slice A 2 c) exAr.ids) : Calls Tryz.prog 30 #[.agg #[.slice A 2 c, .bool false, .int .i64 2, .bool false], .agg #[.int .i64 2, .int .i64 0, .int .u8 3, .int .i64 0]] w fun e w' => ∃ A' c', e = .returned (.tuple #[.slice A' 0 c', .int .i64 2]) ∧ Below w.heap.size w w' :=
  (answers_call (.slice A 2 c) exAr ⟨2, 0, 3, 0⟩ w (by decide) (by decide) hv).mono (by
    rintro e w' ⟨x, rfl, ho, hb⟩
    obtain ⟨A', c', rfl⟩ := own_slice ho
    rw [na_a3.1, na_a3.2]
    exact ⟨A', c', rfl, hb⟩)
theorem nb_u (A : Option Addr) (c : Nat) (w : World) (hv : TyIn w w.heap.size (.slice A 2 c) exAr.ids) : Calls Tryz.prog 31 #[.agg #[.slice A 2 c, .bool false, .int .i64 2, .bool false], .agg #[.int .i64 3, .int .i64 0, .int .u8 1, .int .i64 0]] w fun e w' => ∃ A' c', e = .returned (.tuple #[.slice A' 0 c', .int .i64 7]) ∧ Below w.heap.size w w' :=
  (under_call (.slice A 2 c) exAr ⟨3, 0, 1, 0⟩ w (by decide) (by decide) hv).mono (by
    rintro e w' ⟨x, rfl, ho, hb⟩
    obtain ⟨A', c', rfl⟩ := own_slice ho
    rw [na_u.1, na_u.2]
    exact ⟨A', c', rfl, hb⟩)
theorem nb_p (A : Option Addr) (c : Nat) (w : World) (hv : TyIn w w.heap.size (.slice A 2 c) exAr.ids) : Calls Tryz.prog 36 #[.agg #[.slice A 2 c, .bool false, .int .i64 2, .bool false], .int .i64 1, .int .i64 3] w fun e w' => e = .returned (.tuple #[.agg #[.bool false, .int .i64 0], .int .i64 7]) ∧ Below w.heap.size w w' :=
  (place_any (.slice A 2 c) exAr 1 3 w (by decide) (by decide) hv).mono (by
    rintro e w' ⟨rfl, hb⟩
    exact ⟨by rw [na_p]; rfl, hb⟩)
theorem nb_i (A : Option Addr) (c : Nat) (w : World) (hv : TyIn w w.heap.size (.slice A 2 c) exAr.ids) : Calls Tryz.prog 37 #[.agg #[.slice A 2 c, .bool false, .int .i64 2, .bool false], .int .i64 0] w fun e w' => ∃ A' c', e = .returned (.tuple #[.agg #[.slice A' 0 c', .bool false, .int .i64 0, .bool false], .int .i64 7]) ∧ Below w.heap.size w w' :=
  (inner_any (.slice A 2 c) exAr 0 w (by decide) (by decide) hv).mono (by
    rintro e w' ⟨x, rfl, ht, hb⟩
    rw [na_i] at ht ⊢
    obtain ⟨A', c', rfl⟩ := tyIn_slice ht
    exact ⟨A', c', rfl, hb⟩)
theorem nb_d8 (A : Option Addr) (c : Nat) (w : World) (hv : TyIn w w.heap.size (.slice A 2 c) exAr.ids) (u : Value) (hu : TyIn w w.heap.size u [zTy, zTy, zTy, zTy, zTy, zTy, zTy, zTy]) : Calls Tryz.prog 40 #[.agg #[.slice A 2 c, .bool false, .int .i64 2, .bool false], u] w fun e w' => ∃ A' c', e = .returned (.tuple #[.agg #[.slice A' 0 c', .bool false, .int .i64 0, .bool false], .int .i64 5]) ∧ Below w.heap.size w w' :=
  (arAdd_any (.slice A 2 c) u exAr [zTy, zTy, zTy, zTy, zTy, zTy, zTy, zTy] w (by decide) (by decide) (by decide) hv hu).mono (by
    rintro e w' ⟨x, rfl, ht, hb⟩
    rw [na_d8] at ht ⊢
    obtain ⟨A', c', rfl⟩ := tyIn_slice ht
    exact ⟨A', c', rfl, hb⟩)
theorem nb_d1 (A : Option Addr) (c : Nat) (w : World) (hv : TyIn w w.heap.size (.slice A 2 c) exAr.ids) (u : Value) (hu : TyIn w w.heap.size u [zTy]) : Calls Tryz.prog 40 #[.agg #[.slice A 2 c, .bool false, .int .i64 2, .bool false], u] w fun e w' => ∃ A' c', e = .returned (.tuple #[.agg #[.slice A' 0 c', .bool false, .int .i64 0, .bool false], .int .i64 4]) ∧ Below w.heap.size w w' :=
  (arAdd_any (.slice A 2 c) u exAr [zTy] w (by decide) (by decide) (by decide) hv hu).mono (by
    rintro e w' ⟨x, rfl, ht, hb⟩
    rw [na_d1] at ht ⊢
    obtain ⟨A', c', rfl⟩ := tyIn_slice ht
    exact ⟨A', c', rfl, hb⟩)
theorem nb_r3 (w : World) (h : Laid w) : Calls Tryz.prog 46 #[.string ⟨#[105, 110, 116, 32, 48]⟩] w fun e w' => ∃ A' c', e = .returned (.tuple #[.agg #[.slice A' 0 c', .bool false, .int .i64 0, .bool false], .int .i64 4]) ∧ Below w.heap.size w w' :=
  (read_any lit3 w (by decide) h).mono (by
    rintro e w' ⟨x, rfl, ht, hb⟩
    rw [na_read na_r3] at ht ⊢
    obtain ⟨A', c', rfl⟩ := tyIn_slice ht
    exact ⟨A', c', rfl, hb⟩)
theorem nb_r4 (w : World) (h : Laid w) : Calls Tryz.prog 46 #[.string ⟨#[105, 110, 116, 32, 50, 59, 106, 117, 109, 112, 115]⟩] w fun e w' => ∃ A' c', e = .returned (.tuple #[.agg #[.slice A' 0 c', .bool false, .int .i64 0, .bool false], .int .i64 4]) ∧ Below w.heap.size w w' :=
  (read_any lit4 w (by decide) h).mono (by
    rintro e w' ⟨x, rfl, ht, hb⟩
    rw [na_read na_r4] at ht ⊢
    obtain ⟨A', c', rfl⟩ := tyIn_slice ht
    exact ⟨A', c', rfl, hb⟩)
theorem na_t : textRes numTx ⟨0, 0, 1, 1⟩ = (⟨#[]⟩, 4) := by decide +kernel
theorem nb_t (w : World) : Calls Tryz.prog 42 #[.agg #[.int .i64 0, .int .i64 0, .int .u8 1, .int .i64 1]] w fun e w' => e = .returned (.tuple #[.string ⟨#[]⟩, .int .i64 4]) ∧ Below w.heap.size w w' :=
  (text_small ⟨0, 0, 1, 1⟩ w (by decide) (by decide) (by decide)).mono (by
    rintro e w' ⟨rfl, hb⟩
    exact ⟨by rw [na_t], hb⟩)
theorem lit2_fits (w : World) (h : Laid w) : ∀ i, i < 3 → Fits numTx w lit2 i := by
  intro i hi
  have hsz : ∀ i : Nat, i < 3 → lit2.size < 4294967281 ∧ (cut1 lit2 ((signOf ((i : Int) + 1)).getD ⟨#[]⟩)).size < 4294967281 ∧ (cut2 lit2 ((signOf ((i : Int) + 1)).getD ⟨#[]⟩)).size ≤ 281474976710656 ∧ (cut1 (cut1 lit2 ((signOf ((i : Int) + 1)).getD ⟨#[]⟩)) ⟨#[46]⟩).size ≤ 281474976710656 ∧ (cut2 (cut1 lit2 ((signOf ((i : Int) + 1)).getD ⟨#[]⟩)) ⟨#[46]⟩).size ≤ 281474976710656 := by
    intro i hi
    match i, hi with
    | 0, _ => decide
    | 1, _ => decide
    | 2, _ => decide
  obtain ⟨s0, s1, s2, s3, s4⟩ := hsz i hi
  refine ⟨fun W hW => readMove_any lit2 _ _ W (h.later hW) s0 s1 s2 s3 s4, fun W hW => ?_⟩
  match i, hi with
  | 0, _ => rw [na_k0]; exact text_small _ W (by decide) (by decide) (by decide)
  | 1, _ => rw [na_k1]; exact text_small _ W (by decide) (by decide) (by decide)
  | 2, _ => rw [na_k2]; exact text_small _ W (by decide) (by decide) (by decide)
theorem na_t0 : textRes numTx ⟨1, 0, 1, 0⟩ = (⟨#[49, 63]⟩, 0) := tr0
theorem na_t1 : textRes numTx ⟨1, 0, 2, 0⟩ = (⟨#[49, 61, 48]⟩, 0) := by
  simp only [textRes, signOf, hasTx, placeTx, valTx]
  rw [numTx1, numTx0]
  kernel_rfl
theorem na_t2 : textRes numTx ⟨1, 0, 3, 0⟩ = (⟨#[49, 33, 48]⟩, 0) := tr2
theorem na_ok : ∀ i, i < 3 → okB numTx lit2 i = false := by
  intro i hi
  unfold okB
  match i, hi with
  | 0, _ => rw [na_k0, na_t0]; exact (Bool.and_eq_false_iff.2 (.inr (bytes_ne (by decide))))
  | 1, _ => rw [na_k1, na_t1]; exact (Bool.and_eq_false_iff.2 (.inr (bytes_ne (by decide))))
  | 2, _ => rw [na_k2, na_t2]; exact (Bool.and_eq_false_iff.2 (.inr (bytes_ne (by decide))))
theorem nb_q (w : World) (h : Laid w) : Calls Tryz.prog 43 #[.string ⟨#[49, 46, 48, 63]⟩] w fun e w' => e = .returned (.tuple #[.agg #[.int .i64 0, .int .i64 0, .int .u8 0, .int .i64 0], .int .i64 4]) ∧ Below w.heap.size w w' :=
  parse_any numTx lit2 w (⟨0, 0, 0, 0⟩, 4) (lit2_fits w h) (fun i hi ho => by rw [na_ok i hi] at ho; cases ho) (fun _ => rfl)
theorem mv_lit (W : World) : MvIn (W.alloc (.cells #[.int .i64 1, .int .i64 2, .int .u8 3, .int .i64 (-1), .int .i64 1, .int .i64 2, .int .u8 3, .int .i64 0] 40)) (W.alloc (.cells #[.int .i64 1, .int .i64 2, .int .u8 3, .int .i64 (-1), .int .i64 1, .int .i64 2, .int .u8 3, .int .i64 0] 40)).heap.size (.slice (some ⟨W.heap.size, 0, none⟩) 2 2) [⟨1, 2, 3, -1⟩, ⟨1, 2, 3, 0⟩] := by
  obtain ⟨X, hX⟩ : ∃ X, W.alloc (.cells #[.int .i64 1, .int .i64 2, .int .u8 3, .int .i64 (-1), .int .i64 1, .int .i64 2, .int .u8 3, .int .i64 0] 40) = X := ⟨_, rfl⟩
  have x1 : X.heap[W.heap.size]? = some (.cells #[.int .i64 1, .int .i64 2, .int .u8 3, .int .i64 (-1), .int .i64 1, .int .i64 2, .int .u8 3, .int .i64 0] 40 (0, 0)) := by rw [← hX]; exact World.alloc_heap_new W _
  have hlt : W.heap.size < X.heap.size := (Array.getElem?_eq_some_iff.1 x1).1
  rw [hX]
  have f : ∀ j v, (#[.int .i64 1, .int .i64 2, .int .u8 3, .int .i64 (-1), .int .i64 1, .int .i64 2, .int .u8 3, .int .i64 0] : Array Value)[j]? = some v → X.cell? ⟨W.heap.size, j, none⟩ = some v := fun j v h => (cell_of_row X _ j _ 40 (0, 0) x1).trans h
  refine ⟨some ⟨W.heap.size, 0, none⟩, 2, rfl, fun i x hx => ⟨W.heap.size, 0, rfl, hlt, fun j u hu => ?_⟩⟩
  match i, hx with
  | 0, hx =>
    obtain rfl : (⟨1, 2, 3, -1⟩ : Mv) = x := Option.some.inj hx
    match j, hu with
    | 0, hu => exact f 0 _ hu
    | 1, hu => exact f 1 _ hu
    | 2, hu => exact f 2 _ hu
    | 3, hu => exact f 3 _ hu
    | (n + 4), hu => simp [Mv.cells4] at hu
  | 1, hx =>
    obtain rfl : (⟨1, 2, 3, 0⟩ : Mv) = x := Option.some.inj hx
    match j, hu with
    | 0, hu => exact f 4 _ hu
    | 1, hu => exact f 5 _ hu
    | 2, hu => exact f 6 _ hu
    | 3, hu => exact f 7 _ hu
    | (n + 4), hu => simp [Mv.cells4] at hu
  | (n + 2), hx => simp at hx
/-- A row of n empty types. -/
theorem ty_zero (W : World) (n : Nat) (cs : Array Value) (h : ∀ i, i < n → cs[i * 3]? = some (.slice none 0 0) ∧ cs[i * 3 + 1]? = some (.bool false) ∧ cs[i * 3 + 2]? = some (.int .i64 0)) : TyIn (W.alloc (.cells cs 64)) (W.alloc (.cells cs 64)).heap.size (.slice (some ⟨W.heap.size, 0, none⟩) n n) (List.replicate n zTy) := by
  obtain ⟨X, hX⟩ : ∃ X, W.alloc (.cells cs 64) = X := ⟨_, rfl⟩
  have x1 : X.heap[W.heap.size]? = some (.cells cs 64 (0, 0)) := by rw [← hX]; exact World.alloc_heap_new W _
  have hlt : W.heap.size < X.heap.size := (Array.getElem?_eq_some_iff.1 x1).1
  rw [hX]
  have f : ∀ j v, cs[j]? = some v → X.cell? ⟨W.heap.size, j, none⟩ = some v := fun j v h => (cell_of_row X _ j _ 64 (0, 0) x1).trans h
  refine ⟨some ⟨W.heap.size, 0, none⟩, n, by rw [List.length_replicate], fun i x hx => ?_⟩
  obtain ⟨hi, rfl⟩ := List.getElem?_eq_some_iff.1 hx
  rw [List.length_replicate] at hi
  rw [List.getElem_replicate]
  obtain ⟨h0, h1, h2⟩ := h i hi
  exact ⟨W.heap.size, 0, .slice none 0 0, rfl, hlt, ⟨none, 0, rfl, fun j y hy => by simp [zTy] at hy⟩, by rw [Nat.zero_add]; exact f _ _ h0, by rw [Nat.zero_add]; exact f _ _ h1, by rw [Nat.zero_add]; exact f _ _ h2⟩
/-- The arena with one type of one parameter. -/
theorem ty_one (W : World) (N : Nat) (hN : W.heap.size = N) : TyIn ((W.alloc (.cells #[.bool false, .int .i64 1] 24)).alloc (.cells #[.slice (some ⟨N, 0, none⟩) 1 1, .bool true, .int .i64 1] 64)) ((W.alloc (.cells #[.bool false, .int .i64 1] 24)).alloc (.cells #[.slice (some ⟨N, 0, none⟩) 1 1, .bool true, .int .i64 1] 64)).heap.size (.slice (some ⟨N + 1, 0, none⟩) 1 1) [⟨[⟨false, 1⟩], ⟨true, 1⟩⟩] := by
  subst hN
  obtain ⟨X0, e0⟩ : ∃ X, Obj.cells #[.bool false, .int .i64 1] 24 = X := ⟨_, rfl⟩
  obtain ⟨X1, e1⟩ : ∃ X, Obj.cells #[.slice (some ⟨W.heap.size, 0, none⟩) 1 1, .bool true, .int .i64 1] 64 = X := ⟨_, rfl⟩
  rw [e0, e1]
  obtain ⟨X, hX⟩ : ∃ X, (W.alloc X0).alloc X1 = X := ⟨_, rfl⟩
  rw [hX]
  have x0 : X.heap[W.heap.size]? = some X0 := by rw [← hX]; exact (Below.heap_alloc _ _ _ (by simp)).trans (World.alloc_heap_new W _)
  have x1 : X.heap[W.heap.size + 1]? = some X1 := by rw [← hX]; have := World.alloc_heap_new (W.alloc X0) X1; rwa [World.size_alloc] at this
  subst e0 e1
  have l0 := (Array.getElem?_eq_some_iff.1 x0).1
  have l1 := (Array.getElem?_eq_some_iff.1 x1).1
  have f : ∀ j v, (#[.bool false, .int .i64 1] : Array Value)[j]? = some v → X.cell? ⟨W.heap.size, j, none⟩ = some v := fun j v h => (cell_of_row X _ j _ 24 (0, 0) x0).trans h
  have d : ∀ j v, (#[.slice (some ⟨W.heap.size, 0, none⟩) 1 1, .bool true, .int .i64 1] : Array Value)[j]? = some v → X.cell? ⟨W.heap.size + 1, j, none⟩ = some v := fun j v h => (cell_of_row X _ j _ 64 (0, 0) x1).trans h
  refine ⟨some ⟨W.heap.size + 1, 0, none⟩, 1, rfl, fun i x hx => ?_⟩
  match i, hx with
  | 0, hx =>
    obtain rfl : (⟨[⟨false, 1⟩], ⟨true, 1⟩⟩ : Ty) = x := Option.some.inj hx
    refine ⟨_, 0, .slice (some ⟨W.heap.size, 0, none⟩) 1 1, rfl, l1, ⟨some ⟨W.heap.size, 0, none⟩, 1, rfl, fun j y hy => ?_⟩, d 0 _ rfl, d 1 _ rfl, d 2 _ rfl⟩
    match j, hy with
    | 0, hy =>
      obtain rfl : (⟨false, 1⟩ : Bs) = y := Option.some.inj hy
      exact ⟨_, 0, rfl, l0, f 0 _ rfl, f 1 _ rfl⟩
    | (n + 1), hy => simp at hy
  | (n + 1), hx => simp at hx
theorem nb_c1 (v : Value) (w : World) (hv : TyIn w w.heap.size v [⟨[⟨false, 1⟩], ⟨true, 1⟩⟩]) : Calls Tryz.prog 20 #[.agg #[v, .bool false, .int .i64 1, .bool false]] w fun e w' => e = .returned (.int .i64 4) ∧ Below w.heap.size w w' :=
  (check_any v ⟨[⟨[⟨false, 1⟩], ⟨true, 1⟩⟩], ⟨false, 1⟩, false⟩ w (by decide) (by decide) hv).mono (by
    rintro e w' ⟨rfl, hb⟩
    exact ⟨by rw [na_c1], hb⟩)
theorem nb_c2 (w : World) : Calls Tryz.prog 20 #[.agg #[.slice none 0 0, .bool false, .int .i64 65, .bool false]] w fun e w' => e = .returned (.int .i64 4) ∧ Below w.heap.size w w' :=
  (check_any (.slice none 0 0) ⟨[], ⟨false, 65⟩, false⟩ w (by decide) (by decide) ⟨none, 0, rfl, fun i x hx => by simp at hx⟩).mono (by
    rintro e w' ⟨rfl, hb⟩
    exact ⟨by rw [na_c2], hb⟩)
theorem nb_w (v v' : Value) (w : World) (hv : MvIn w w.heap.size v [⟨1, 2, 3, -1⟩, ⟨1, 2, 3, 0⟩]) (hv' : MvIn w w.heap.size v' [⟨1, 2, 3, -1⟩, ⟨1, 2, 3, 0⟩]) : Calls Tryz.prog 26 #[v, v'] w fun e w' => e = .returned (.bool true) ∧ Below w.heap.size w w' :=
  sameWord_any v v' _ w (by decide) hv hv'
end Go.Proofs.YtklfojmflmablaaGreatDoor
/- The walk. -/
namespace Go.Proofs.YtklfojmflmablaaGreatDoor
open Go Go.RowKit Go.Shelf

theorem na_on {w W W' : World} (h : Below w.heap.size w W) (h' : Below W.heap.size W W') : Below w.heap.size w W' := h.trans (h'.mono h.size)
theorem na_box {w W W' : World} {o : Obj} (h : Below w.heap.size w W) (e : W.alloc o = W') : Below w.heap.size w W' := na_on h (e ▸ (Below.refl _ W).alloc (Nat.le_refl _) _)
theorem na_keep {w wa w1 : World} {A : Option Addr} {c : Nat} (hw1 : wa.alloc (.cells #[.slice A 2 c, .bool false, .int .i64 2, .bool false] 26) = w1) (ta : TyIn wa wa.heap.size (.slice A 2 c) exAr.ids) (h : Laid w) (hba : Below w.heap.size w wa) :
    ∀ W, Below w1.heap.size w1 W → (W.cell? ⟨wa.heap.size, 0, none⟩ = some (.slice A 2 c) ∧ W.cell? ⟨wa.heap.size, 1, none⟩ = some (.bool false) ∧ W.cell? ⟨wa.heap.size, 2, none⟩ = some (.int .i64 2) ∧ W.cell? ⟨wa.heap.size, 3, none⟩ = some (.bool false)) ∧ TyIn W W.heap.size (.slice A 2 c) exAr.ids ∧ Laid W := fun W hW => by
  have x0 : w1.heap[wa.heap.size]? = some (.cells #[.slice A 2 c, .bool false, .int .i64 2, .bool false] 26 (0, 0)) := by rw [← hw1]; exact World.alloc_heap_new wa _
  have x1 := (hW.block _ (Array.getElem?_eq_some_iff.1 x0).1).trans x0
  have h1 : Below wa.heap.size wa w1 := na_box (Below.refl _ _) hw1
  exact ⟨⟨cell_of_row W _ 0 _ 26 (0, 0) x1, cell_of_row W _ 1 _ 26 (0, 0) x1, cell_of_row W _ 2 _ 26 (0, 0) x1, cell_of_row W _ 3 _ 26 (0, 0) x1⟩, tyIn_later (tyIn_later ta h1) hW, h.later (na_on (na_on hba h1) hW)⟩
theorem na_mk8 (w : World) : (Instr.makeSlice 22 (.int .i64 8) (.int .i64 8)).run Tryz.prog w = .ok (.slice (some ⟨w.heap.size, 0, none⟩) 8 8) (w.alloc (.cells #[.slice none 0 0, .bool false, .int .i64 0, .slice none 0 0, .bool false, .int .i64 0, .slice none 0 0, .bool false, .int .i64 0, .slice none 0 0, .bool false, .int .i64 0, .slice none 0 0, .bool false, .int .i64 0, .slice none 0 0, .bool false, .int .i64 0, .slice none 0 0, .bool false, .int .i64 0, .slice none 0 0, .bool false, .int .i64 0] 64)) := by kernel_rfl
theorem na_mk1 (w : World) : (Instr.makeSlice 22 (.int .i64 1) (.int .i64 1)).run Tryz.prog w = .ok (.slice (some ⟨w.heap.size, 0, none⟩) 1 1) (w.alloc (.cells #[.slice none 0 0, .bool false, .int .i64 0] 64)) := by kernel_rfl

set_option maxRecDepth 100000 in
set_option maxHeartbeats 4000000 in
theorem law10_any (w : World) (h : Laid w) : Calls Tryz.prog 10 #[] w fun e w' => e = .returned (.bool true) ∧ Below w.heap.size w w' := by
  have HL := Lib.hid h
  clear h
  go_enter Tryz.func10, Tryz.ntmps10
  go_upto_region 2 with (go_at_call 50; (refine (aw_example _).mono ?_); rintro e wa ⟨A, c, rfl, ta, hba⟩)
  obtain ⟨w1, hw1⟩ : ∃ w1, wa.alloc (.cells #[.slice A 2 c, .bool false, .int .i64 2, .bool false] 26) = w1 := ⟨_, rfl⟩
  rw [hw1]
  have HB : Hid (Below w.heap.size w w1) := Lib.hid (na_box hba hw1)
  have KB := Lib.hid (na_keep hw1 ta.out HL.out hba)
  have H1 : Hid (Below w1.heap.size w1 w1) := Lib.hid (Below.refl _ _)
  obtain ⟨a0, a1, a2, a3⟩ := (KB.out _ H1.out).1
  clear ta hba hw1
  go_upto_region 8 with (first
    | (go_at_call 29; ((with_reducible refine (nb_o1 A c _ (KB.out _ H1.out).2.1).mono ?_); skip); rintro e w2 ⟨rfl, hb⟩; have Hw2 : Hid (Below w1.heap.size w1 w2) := Lib.hid (na_on H1.out hb); clear hb; obtain ⟨a0, a1, a2, a3⟩ := (KB.out _ Hw2.out).1)
    | (go_at_call 29; ((with_reducible refine (nb_o2 A c _ (KB.out _ Hw2.out).2.1).mono ?_); skip); rintro e w3 ⟨rfl, hb⟩; have Hw3 : Hid (Below w1.heap.size w1 w3) := Lib.hid (na_on Hw2.out hb); clear hb; obtain ⟨a0, a1, a2, a3⟩ := (KB.out _ Hw3.out).1)
    | (go_at_call 30; ((with_reducible refine (nb_a1 A c _ (KB.out _ Hw3.out).2.1).mono ?_); skip); rintro e w4 ⟨A4, c4, rfl, M4, hb⟩; have Hw4 : Hid (Below w1.heap.size w1 w4) := Lib.hid (na_on Hw3.out hb); clear hb; obtain ⟨a0, a1, a2, a3⟩ := (KB.out _ Hw4.out).1)
    | (go_at_call 30; ((with_reducible refine (nb_a2 A c _ (KB.out _ Hw4.out).2.1).mono ?_); skip); rintro e w5 ⟨A5, c5, rfl, hb⟩; have Hw5 : Hid (Below w1.heap.size w1 w5) := Lib.hid (na_on Hw4.out hb); have M5 : Hid (MvIn w5 w5.heap.size (.slice A4 2 c4) [⟨1, 2, 3, -1⟩, ⟨1, 2, 3, 0⟩]) := Lib.hid (M4.out.later hb); clear hb; obtain ⟨a0, a1, a2, a3⟩ := (KB.out _ Hw5.out).1)
    | (go_at_call 28; ((with_reducible refine (nb_h1 A c _ (KB.out _ Hw5.out).2.1).mono ?_); skip); rintro e w6 ⟨rfl, hb⟩; have Hw6 : Hid (Below w1.heap.size w1 w6) := Lib.hid (na_on Hw5.out hb); have M6 : Hid (MvIn w6 w6.heap.size (.slice A4 2 c4) [⟨1, 2, 3, -1⟩, ⟨1, 2, 3, 0⟩]) := Lib.hid (M5.out.later hb); clear hb; obtain ⟨a0, a1, a2, a3⟩ := (KB.out _ Hw6.out).1)
    | (go_at_call 28; ((with_reducible refine (nb_h2 A c _ (KB.out _ Hw6.out).2.1).mono ?_); skip); rintro e w7 ⟨rfl, hb⟩; have M7 := Lib.hid (M6.out.later hb); have Hw7 : Hid (Below w1.heap.size w1 w7) := Lib.hid (na_on Hw6.out hb); clear hb; obtain ⟨z7, hz7⟩ : ∃ z7, w7.alloc (.cells #[.int .i64 1, .int .i64 2, .int .u8 3, .int .i64 (-1), .int .i64 1, .int .i64 2, .int .u8 3, .int .i64 0] 40) = z7 := ⟨_, rfl⟩; have Hz7 : Hid (Below w1.heap.size w1 z7) := Lib.hid (na_box Hw7.out hz7); have M8 : Hid (MvIn z7 z7.heap.size (.slice A4 2 c4) [⟨1, 2, 3, -1⟩, ⟨1, 2, 3, 0⟩]) := Lib.hid (M7.out.later (na_box (Below.refl _ _) hz7)); have L8 : Hid (MvIn z7 z7.heap.size (.slice (some ⟨w7.heap.size, 0, none⟩) 2 2) [⟨1, 2, 3, -1⟩, ⟨1, 2, 3, 0⟩]) := Lib.hid (by have := mv_lit w7; rwa [hz7] at this)))
  go_cut [107] from 61 to 107 (fun s wx => s = .bool false ∧ Hid (Below w1.heap.size w1 wx))
  case first =>
    go_wp2_with (go_at_call 26; ((with_reducible refine (nb_w _ _ _ M8.out L8.out).mono ?_); skip); rintro e w8 ⟨rfl, hb⟩; have Hw8 : Hid (Below w1.heap.size w1 w8) := Lib.hid (na_on Hz7.out hb); clear hb)
    go_meet
    exact ⟨rfl, Hw8⟩
  case rest =>
  obtain ⟨rfl, HC⟩ := hcut
  clear M7 M8 L8 hz7 Hz7 Hw7 M4 M5 M6 Hw2 Hw3 Hw4 Hw5 Hw6
  obtain ⟨a0, a1, a2, a3⟩ := (KB.out _ HC.out).1
  go_upto_region 14 with (first
    | (go_at_call 30; ((with_reducible refine (nb_a3 A c _ (KB.out _ HC.out).2.1).mono ?_); skip); rintro e w9 ⟨A9, c9, rfl, hb⟩; have Hw9 : Hid (Below w1.heap.size w1 w9) := Lib.hid (na_on HC.out hb); clear hb; obtain ⟨a0, a1, a2, a3⟩ := (KB.out _ Hw9.out).1)
    | (go_at_call 31; ((with_reducible refine (nb_u A c _ (KB.out _ Hw9.out).2.1).mono ?_); skip); rintro e w10 ⟨A10, c10, rfl, hb⟩; have Hw10 : Hid (Below w1.heap.size w1 w10) := Lib.hid (na_on Hw9.out hb); clear hb; obtain ⟨a0, a1, a2, a3⟩ := (KB.out _ Hw10.out).1)
    | (go_at_call 36; ((with_reducible refine (nb_p A c _ (KB.out _ Hw10.out).2.1).mono ?_); skip); rintro e w11 ⟨rfl, hb⟩; have Hw11 : Hid (Below w1.heap.size w1 w11) := Lib.hid (na_on Hw10.out hb); clear hb; obtain ⟨a0, a1, a2, a3⟩ := (KB.out _ Hw11.out).1)
    | (go_at_call 37; ((with_reducible refine (nb_i A c _ (KB.out _ Hw11.out).2.1).mono ?_); skip); rintro e w12 ⟨A12, c12, rfl, hb⟩; have Hw12 : Hid (Below w1.heap.size w1 w12) := Lib.hid (na_on Hw11.out hb); clear hb; obtain ⟨a0, a1, a2, a3⟩ := (KB.out _ Hw12.out).1))
  obtain ⟨z12, hz12⟩ : ∃ z, w12.alloc (.cells #[.slice none 0 0, .bool false, .int .i64 0, .slice none 0 0, .bool false, .int .i64 0, .slice none 0 0, .bool false, .int .i64 0, .slice none 0 0, .bool false, .int .i64 0, .slice none 0 0, .bool false, .int .i64 0, .slice none 0 0, .bool false, .int .i64 0, .slice none 0 0, .bool false, .int .i64 0, .slice none 0 0, .bool false, .int .i64 0] 64) = z := ⟨_, rfl⟩
  have Hz12 : Hid (Below w1.heap.size w1 z12) := Lib.hid (na_box Hw12.out hz12)
  have Dz12 : Hid (∀ W, Below z12.heap.size z12 W → TyIn W W.heap.size (.slice (some ⟨w12.heap.size, 0, none⟩) 8 8) [zTy, zTy, zTy, zTy, zTy, zTy, zTy, zTy]) := Lib.hid fun W hW => tyIn_later (by have := ty_zero w12 8 #[.slice none 0 0, .bool false, .int .i64 0, .slice none 0 0, .bool false, .int .i64 0, .slice none 0 0, .bool false, .int .i64 0, .slice none 0 0, .bool false, .int .i64 0, .slice none 0 0, .bool false, .int .i64 0, .slice none 0 0, .bool false, .int .i64 0, .slice none 0 0, .bool false, .int .i64 0, .slice none 0 0, .bool false, .int .i64 0] (fun i hi => by rcases (show i = 0 ∨ i = 1 ∨ i = 2 ∨ i = 3 ∨ i = 4 ∨ i = 5 ∨ i = 6 ∨ i = 7 by omega) with rfl | rfl | rfl | rfl | rfl | rfl | rfl | rfl <;> exact ⟨rfl, rfl, rfl⟩); rw [hz12] at this; exact this) hW
  go_cut [11] from 130 to 135 (fun s wx => s = .int .i64 5 ∧ Hid (Below w1.heap.size w1 wx))
  case first =>
    have hmk := na_mk8
    obtain ⟨b0, b1, b2, b3⟩ := (KB.out _ Hz12.out).1
    have Hd : Hid (Below w1.heap.size w1 z12.drew) := Lib.hid Hz12.out.drew
    have He : Hid (Below z12.heap.size z12 z12.drew) := Lib.hid (Below.refl _ _).drew
    go_region_with (go_at_call 40; ((with_reducible refine (nb_d8 A c _ (KB.out _ Hd.out).2.1 _ (Dz12.out _ He.out)).mono ?_); skip); rintro e wd ⟨Ad, cd, rfl, hb⟩; have Hwd : Hid (Below w1.heap.size w1 wd) := Lib.hid (na_on Hd.out hb); clear hb)
    all_goals (go_wp2_with fail; go_meet; exact ⟨rfl, Hwd⟩)
  case rest =>
  obtain ⟨rfl, HD⟩ := hcut
  obtain ⟨a0, a1, a2, a3⟩ := (KB.out _ HD.out).1
  clear hz12 Hz12 Dz12
  go_upto_region 15 with fail
  obtain ⟨z13, hz13⟩ : ∃ z, wc.alloc (.cells #[.slice none 0 0, .bool false, .int .i64 0] 64) = z := ⟨_, rfl⟩
  have Hz13 : Hid (Below w1.heap.size w1 z13) := Lib.hid (na_box HD.out hz13)
  have Dz13 : Hid (∀ W, Below z13.heap.size z13 W → TyIn W W.heap.size (.slice (some ⟨wc.heap.size, 0, none⟩) 1 1) [zTy]) := Lib.hid fun W hW => tyIn_later (by have := ty_zero wc 1 #[.slice none 0 0, .bool false, .int .i64 0] (fun i hi => by rcases (show i = 0 by omega) with rfl <;> exact ⟨rfl, rfl, rfl⟩); rw [hz13] at this; exact this) hW
  go_cut [13] from 136 to 141 (fun s wx => s = .int .i64 4 ∧ Hid (Below w1.heap.size w1 wx))
  case first =>
    have hmk := na_mk1
    obtain ⟨b0, b1, b2, b3⟩ := (KB.out _ Hz13.out).1
    have Hd : Hid (Below w1.heap.size w1 z13.drew) := Lib.hid Hz13.out.drew
    have He : Hid (Below z13.heap.size z13 z13.drew) := Lib.hid (Below.refl _ _).drew
    go_region_with (go_at_call 40; ((with_reducible refine (nb_d1 A c _ (KB.out _ Hd.out).2.1 _ (Dz13.out _ He.out)).mono ?_); skip); rintro e wd ⟨Ad, cd, rfl, hb⟩; have Hwd : Hid (Below w1.heap.size w1 wd) := Lib.hid (na_on Hd.out hb); clear hb)
    all_goals (go_wp2_with fail; go_meet; exact ⟨rfl, Hwd⟩)
  case rest =>
  obtain ⟨rfl, HE⟩ := hcut
  clear hz13 Hz13 Dz13 a0 a1 a2 a3
  go_wp2_with (first
    | (go_at_call 43; ((with_reducible refine (nb_q _ (KB.out _ HE.out).2.2).mono ?_); skip); rintro e w16 ⟨rfl, hb⟩; have H16 : Hid (Below w1.heap.size w1 (w16.alloc (.cells #[.int .i64 0, .int .i64 0, .int .u8 0, .int .i64 0] 40))) := Lib.hid (na_box (na_on HE.out hb) rfl); clear hb)
    | (go_at_call 42; ((with_reducible refine (nb_t _).mono ?_); skip); rintro e w17 ⟨rfl, hb⟩; have H17 : Hid (Below w1.heap.size w1 w17) := Lib.hid (na_on H16.out hb); clear hb)
    | (go_at_call 46; ((with_reducible refine (nb_r3 _ (KB.out _ H17.out).2.2).mono ?_); skip); rintro e w18 ⟨A18, c18, rfl, hb⟩; have H18 : Hid (Below w1.heap.size w1 (w18.alloc (.cells #[.slice A18 0 c18, .bool false, .int .i64 0, .bool false] 26))) := Lib.hid (na_box (na_on H17.out hb) rfl); clear hb)
    | (go_at_call 46; ((with_reducible refine (nb_r4 _ (KB.out _ H18.out).2.2).mono ?_); skip); rintro e w19 ⟨A19, c19, rfl, hb⟩; have H19 : Hid (Below w1.heap.size w1 (w19.alloc (.cells #[.slice A19 0 c19, .bool false, .int .i64 0, .bool false] 26))) := Lib.hid (na_box (na_on H18.out hb) rfl); have T19 := Lib.hid (ty_one (w19.alloc (.cells #[.slice A19 0 c19, .bool false, .int .i64 0, .bool false] 26)) (w19.heap.size + 1) (World.size_alloc _ _)); clear hb)
    | (go_at_call 20; ((with_reducible refine (nb_c1 _ _ T19.out).mono ?_); skip); rintro e w20 ⟨rfl, hb⟩; have H20 : Hid (Below w1.heap.size w1 w20) := Lib.hid (na_on (na_box (na_box H19.out rfl) rfl) hb); clear hb)
    | (go_at_call 20; ((with_reducible refine (nb_c2 _).mono ?_); skip); rintro e w21 ⟨rfl, hb⟩; have H21 : Hid (Below w1.heap.size w1 w21) := Lib.hid (na_on H20.out hb); clear hb)
    | (go_at_call 18; ((with_reducible refine (awake_any _ (KB.out _ H21.out).2.2).mono ?_); skip); rintro e w22 ⟨rfl, hb⟩; have H22 : Hid (Below w1.heap.size w1 w22) := Lib.hid (na_on H21.out hb); clear hb))
  go_ret
  exact ⟨rfl, HB.out.trans (H22.out.mono HB.out.size)⟩
end Go.Proofs.YtklfojmflmablaaGreatDoor
