/- awake. -/
import Derived.Test.YtklfojmflmablaaGreatDoorEx
namespace Go.Proofs.YtklfojmflmablaaGreatDoor
open Go Go.RowKit Go.Shelf

theorem ex_moves : (movesRes exAr).2 = 0 ∧ (movesRes exAr).1.length = 22 := by decide +kernel
theorem ex_inner : innerRes exAr 1 = (⟨[⟨[], ⟨false, 3⟩⟩, ⟨[], ⟨true, 2⟩⟩], ⟨false, 1⟩, true⟩, 0) := by decide +kernel
theorem ex_under : (underOf exAr ⟨1, 0, 1, 0⟩).2 = 0 ∧ (underOf exAr ⟨1, 0, 1, 0⟩).1.length = 4 := by decide +kernel
theorem ex_other : otherRes exAr ⟨1, 0, 3, 0⟩ = (true, 0) := by decide +kernel
def inAr : Ar := ⟨[⟨[], ⟨false, 3⟩⟩, ⟨[], ⟨true, 2⟩⟩], ⟨false, 1⟩, true⟩
theorem ex_text : arTx (fun x => baseTx x.result) inAr = ⟨#[105, 110, 116, 32, 49, 59, 32, 105, 110, 116, 32, 51, 59, 32, 99, 101, 108, 108, 32, 50, 59, 32, 106, 117, 109, 112, 115]⟩ := by
  unfold arTx inAr strs baseTx
  simp only [List.map_cons, List.map_nil, if_true, Bool.false_eq_true, if_false]
  rw [numTx1, numTx2, numTx3]
  kernel_rfl
theorem ex_len : (strs (baseTx inAr.root) (inAr.ids.map (fun x => baseTx x.result))).size ≤ 1000000 := by
  unfold inAr strs baseTx
  simp only [List.map_cons, List.map_nil, if_true, Bool.false_eq_true, if_false]
  rw [numTx1, numTx2, numTx3]
  decide +kernel
theorem show_in (v : Value) (w : World) (hv : TyIn w w.heap.size v inAr.ids) : Calls Tryz.prog 22 #[arV v inAr.root inAr.jumps] w fun e w' => e = .returned (.tuple #[.string ⟨#[105, 110, 116, 32, 49, 59, 32, 105, 110, 116, 32, 51, 59, 32, 99, 101, 108, 108, 32, 50, 59, 32, 106, 117, 109, 112, 115]⟩, .int .i64 0]) ∧ Below w.heap.size w w' := by
  have := show_any v inAr (fun x => baseTx x.result) w (by decide +kernel) (by simp [inAr]) hv ex_len (fun W0 W pv x hb hx hp hw => by
    have hx' : x = ⟨[], ⟨false, 3⟩⟩ ∨ x = ⟨[], ⟨true, 2⟩⟩ := by simpa [inAr] using hx
    rcases hx' with rfl | rfl
    · obtain ⟨A, c, rfl⟩ := bsIn_slice hp
      exact typeText_none A c _ W (by decide) (by decide)
    · obtain ⟨A, c, rfl⟩ := bsIn_slice hp
      exact typeText_none A c _ W (by decide) (by decide))
  rw [ex_text] at this
  exact this

theorem own_slice {W : World} {n : Nat} {v : Value} {l : List Mv} (h : OwnMv W n v l) : ∃ A c, v = .slice A l.length c := by
  rcases h.2 with ⟨rfl, h0⟩ | ⟨g, cap, cur, rfl, _⟩
  · exact ⟨none, 0, by rw [h0]⟩
  · exact ⟨_, _, rfl⟩

theorem aw_example (w : World) : Calls Tryz.prog 50 #[] w fun e w' => ∃ A c, e = .returned (.agg #[.slice A 2 c, .bool false, .int .i64 2, .bool false]) ∧ Hid (TyIn w' w'.heap.size (.slice A 2 c) exAr.ids) ∧ Below w.heap.size w w' :=
  (example_any w).mono (by
    rintro e w' ⟨v, rfl, ht, hb⟩
    obtain ⟨A, c, rfl⟩ := tyIn_slice ht
    exact ⟨A, c, rfl, Lib.hid ht, hb⟩)
theorem aw_moves (A : Option Addr) (c : Nat) (w : World) (hv : TyIn w w.heap.size (.slice A 2 c) exAr.ids) : Calls Tryz.prog 21 #[.agg #[.slice A 2 c, .bool false, .int .i64 2, .bool false]] w fun e w' => ∃ A c, e = .returned (.tuple #[.slice A 22 c, .int .i64 0]) ∧ Below w.heap.size w w' :=
  (moves_call _ exAr w (by decide) (by decide) hv).mono (by
    rintro e w' ⟨x, rfl, ho, hb⟩
    obtain ⟨A, c, rfl⟩ := own_slice ho
    exact ⟨A, c, by rw [ex_moves.1, ex_moves.2], hb⟩)
theorem aw_inner (A : Option Addr) (c : Nat) (w : World) (hv : TyIn w w.heap.size (.slice A 2 c) exAr.ids) : Calls Tryz.prog 37 #[.agg #[.slice A 2 c, .bool false, .int .i64 2, .bool false], .int .i64 1] w fun e w' => ∃ A c, e = .returned (.tuple #[.agg #[.slice A 2 c, .bool false, .int .i64 1, .bool true], .int .i64 0]) ∧ Hid (TyIn w' w'.heap.size (.slice A 2 c) inAr.ids) ∧ Below w.heap.size w w' :=
  (inner_any _ exAr 1 w (by decide) (by decide) hv).mono (by
    rintro e w' ⟨x, rfl, ho, hb⟩
    rw [ex_inner] at ho ⊢
    obtain ⟨A, c, rfl⟩ := tyIn_slice ho
    exact ⟨A, c, rfl, Lib.hid ho, hb⟩)
theorem aw_show (A : Option Addr) (c : Nat) (w : World) (hv : TyIn w w.heap.size (.slice A 2 c) inAr.ids) : Calls Tryz.prog 22 #[.agg #[.slice A 2 c, .bool false, .int .i64 1, .bool true]] w fun e w' => e = .returned (.tuple #[.string ⟨#[105, 110, 116, 32, 49, 59, 32, 105, 110, 116, 32, 51, 59, 32, 99, 101, 108, 108, 32, 50, 59, 32, 106, 117, 109, 112, 115]⟩, .int .i64 0]) ∧ Below w.heap.size w w' := show_in _ w hv
theorem aw_under (A : Option Addr) (c : Nat) (w : World) (hv : TyIn w w.heap.size (.slice A 2 c) exAr.ids) : Calls Tryz.prog 31 #[.agg #[.slice A 2 c, .bool false, .int .i64 2, .bool false], .agg #[.int .i64 1, .int .i64 0, .int .u8 1, .int .i64 0]] w fun e w' => ∃ A c, e = .returned (.tuple #[.slice A 4 c, .int .i64 0]) ∧ Below w.heap.size w w' :=
  (under_call _ exAr ⟨1, 0, 1, 0⟩ w (by decide) (by decide) hv).mono (by
    rintro e w' ⟨x, rfl, ho, hb⟩
    obtain ⟨A, c, rfl⟩ := own_slice ho
    exact ⟨A, c, by rw [ex_under.1, ex_under.2], hb⟩)
theorem aw_parse (w : World) (h : Laid w) : Calls Tryz.prog 43 #[.string ⟨#[49, 46, 50, 61, 49]⟩] w fun e w' => e = .returned (.tuple #[.agg #[.int .i64 1, .int .i64 2, .int .u8 2, .int .i64 1], .int .i64 0]) ∧ Below w.heap.size w w' := parse_lit w h
theorem aw_other (A : Option Addr) (c : Nat) (w : World) (hv : TyIn w w.heap.size (.slice A 2 c) exAr.ids) : Calls Tryz.prog 29 #[.agg #[.slice A 2 c, .bool false, .int .i64 2, .bool false], .agg #[.int .i64 1, .int .i64 0, .int .u8 3, .int .i64 0]] w fun e w' => e = .returned (.tuple #[.bool true, .int .i64 0]) ∧ Below w.heap.size w w' :=
  (isOther_any _ exAr ⟨1, 0, 3, 0⟩ w (by decide) (by decide) hv).mono (by
    rintro e w' ⟨rfl, hb⟩
    exact ⟨by rw [ex_other], hb⟩)

set_option maxRecDepth 100000 in
set_option maxHeartbeats 2000000 in
theorem awake_any (w : World) (h : Laid w) : Calls Tryz.prog 18 #[] w fun e w' => e = .returned (.bool true) ∧ Below w.heap.size w w' := by
  have HL := Lib.hid h
  clear h
  go_enter Tryz.func18, Tryz.ntmps18
  go_wp2_with (first
    | (go_at_call 50; refine (aw_example _).mono ?_; rintro e wa ⟨Aa, ca, rfl, ta, hba⟩; first | (have hc : Below w.heap.size w wa := (hc.trans (hba.mono hc.size))) | (have hc : Below w.heap.size w wa := ((hc.alloc hc.size (.cells #[.int .i64 1, .int .i64 2, .int .u8 2, .int .i64 1] 40)).trans (hba.mono (hc.alloc hc.size (.cells #[.int .i64 1, .int .i64 2, .int .u8 2, .int .i64 1] 40)).size)); have z9 := (hba.block _ (by simp)).trans (World.alloc_heap_new w7 (.cells #[.int .i64 1, .int .i64 2, .int .u8 2, .int .i64 1] 40))) | (have hc : Below w.heap.size w wa := hba))
    | (go_at_call 21; refine (aw_moves _ _ _ ta.out).mono ?_; rintro e w2 ⟨A2, c2, rfl, hb2⟩; have hc := hc.trans (hb2.mono hc.size))
    | (go_at_call 37; refine (aw_inner _ _ _ ta.out).mono ?_; rintro e w4 ⟨A4, c4, rfl, t4, hb4⟩; have hc := hc.trans (hb4.mono hc.size))
    | (go_at_call 22; refine (aw_show _ _ _ (tyIn_later t4.out ((Below.refl _ w4).alloc (Nat.le_refl _) _))).mono ?_; rintro e w5 ⟨rfl, hb5⟩; have hc := (hc.alloc hc.size _).trans (hb5.mono (hc.alloc hc.size _).size))
    | (go_at_call 31; refine (aw_under _ _ _ ta.out).mono ?_; rintro e w6 ⟨A6, c6, rfl, hb6⟩; have hc := hc.trans (hb6.mono hc.size))
    | (go_at_call 43; refine (aw_parse _ (HL.out.later hc)).mono ?_; rintro e w7 ⟨rfl, hb7⟩; have hc := hc.trans (hb7.mono hc.size))
    | (go_at_call 29; refine (aw_other _ _ _ ta.out).mono ?_; rintro e w9 ⟨rfl, hb9⟩; have hc := hc.trans (hb9.mono hc.size); have z10 := (hb9.block _ (Array.getElem?_eq_some_iff.1 z9).1).trans z9; have p0 := cell_of_row w9 _ 0 _ 40 (0, 0) z10; have p1 := cell_of_row w9 _ 1 _ 40 (0, 0) z10; have p2 := cell_of_row w9 _ 2 _ 40 (0, 0) z10; have p3 := cell_of_row w9 _ 3 _ 40 (0, 0) z10))
  go_ret
  exact ⟨rfl, hc⟩
end Go.Proofs.YtklfojmflmablaaGreatDoor
