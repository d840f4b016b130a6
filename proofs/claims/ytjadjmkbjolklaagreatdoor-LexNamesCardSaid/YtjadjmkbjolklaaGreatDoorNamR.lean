/- LexNames: the walk. -/
import Derived.Test.YtjadjmkbjolklaaGreatDoorNamQ
import Derived.Test.YtjadjmkbjolklaaGreatDoorAwakeB
namespace Go.Proofs.YtjadjmkbjolklaaGreatDoor
open Go Go.RowKit

theorem spot_new (w : World) (x y : Int) : (w.alloc (.cells #[.int .i64 x, .int .i64 y] 27)).cell? ⟨w.heap.size, 0, none⟩ = some (.int .i64 x) ∧ (w.alloc (.cells #[.int .i64 x, .int .i64 y] 27)).cell? ⟨w.heap.size, 1, none⟩ = some (.int .i64 y) := by simp

theorem spl_lit (w : World) : SplIn (w.alloc (.cells #[.int .i64 1, .int .i64 2, .string ⟨#[120, 121]⟩] 40)) (w.alloc (.cells #[.int .i64 1, .int .i64 2, .string ⟨#[120, 121]⟩] 40)).heap.size (.slice (some ⟨w.heap.size, 0, none⟩) 1 1) nmSp := splIn_new w nmSp (by decide)

theorem lt_alloc {w w' : World} {o : Obj} (h : (w.alloc o).heap.size ≤ w'.heap.size) : w.heap.size < w'.heap.size := by
  simp at h
  omega

set_option maxRecDepth 100000 in
set_option maxHeartbeats 2000000 in
theorem names_any (w : World) (hn : NumVars w) : Calls Tryz.prog 3 #[] w fun e w' => e = .returned (.bool true) ∧ Below w.heap.size w w' := by
  have HN := Lib.hid hn
  clear hn
  have x1 := neq32_lit
  have x2 := neq56_lit
  have x3 := eql56_lit
  go_enter Tryz.func3, Tryz.ntmps3
  go_wp2_with (first
    | (go_at_call 4; ((with_reducible refine (nq_t1 _ HN.out).mono ?_); skip); rintro e w1 ⟨v1, rfl, hb1⟩; have HB1 := Lib.hid hb1; have HN1 := Lib.hid (HN.out.keep hb1); clear hb1)
    | (go_at_call 4; ((with_reducible refine (nq_t2 _ HN1.out).mono ?_); skip); rintro e w2 ⟨v2, rfl, hb2⟩; have HB2 := Lib.hid (HB1.out.trans (hb2.mono HB1.out.size)); have HN2 := Lib.hid (HN1.out.keep hb2); clear hb2)
    | (go_at_call 4; ((with_reducible refine (nq_t3 _ HN2.out).mono ?_); skip); rintro e w3 ⟨v3, rfl, hb3⟩; have HB3 := Lib.hid (HB2.out.trans (hb3.mono HB2.out.size)); have HN3 := Lib.hid (HN2.out.keep hb3); clear hb3)
    | (go_at_call 5; ((with_reducible refine (nq_s _).mono ?_); skip); rintro e w4 ⟨rfl, hb4⟩; have HB4 := Lib.hid (HB3.out.trans (hb4.mono HB3.out.size)); have HN4 := Lib.hid (HN3.out.keep hb4); have HC4 := Lib.hid (spot_new w4 2 2); clear hb4)
    | (go_at_call 6; ((with_reducible refine (nq_a1 _).mono ?_); skip); rintro e w5 ⟨rfl, hb5⟩; have HB5 := Lib.hid ((HB4.out.alloc HB4.out.size (.cells #[.int .i64 2, .int .i64 2] 27)).trans (hb5.mono (HB4.out.alloc HB4.out.size (.cells #[.int .i64 2, .int .i64 2] 27)).size)); have HN5 := Lib.hid ((HN4.out.alloc (.cells #[.int .i64 2, .int .i64 2] 27)).keep hb5); have HL5 := Lib.hid (lt_alloc hb5.size); have HC5 := Lib.hid (And.intro ((hb5.cell (p := ⟨w4.heap.size, 0, none⟩) (by simp)).trans HC4.out.1) ((hb5.cell (p := ⟨w4.heap.size, 1, none⟩) (by simp)).trans HC4.out.2)); clear hb5)
    | (go_at_call 6; ((with_reducible refine (nq_a2 _).mono ?_); skip); rintro e w6 ⟨rfl, hb6⟩; have HB6 := Lib.hid (HB5.out.trans (hb6.mono HB5.out.size)); have HN6 := Lib.hid (HN5.out.keep hb6); have c0 := (hb6.cell (p := ⟨w4.heap.size, 0, none⟩) HL5.out).trans HC5.out.1; have c1 := (hb6.cell (p := ⟨w4.heap.size, 1, none⟩) HL5.out).trans HC5.out.2; clear hb6)
    | (go_at_call 7; ((with_reducible refine (nq_g1 _ HN6.out).mono ?_); skip); rintro e w7 ⟨rfl, hb7⟩; have HB7 := Lib.hid (HB6.out.trans (hb7.mono HB6.out.size)); have HN7 := Lib.hid (HN6.out.keep hb7); clear hb7 c0 c1)
    | (go_at_call 7; ((with_reducible refine (nq_g2 _ HN7.out).mono ?_); skip); rintro e w8 ⟨rfl, hb8⟩; have HB8 := Lib.hid (HB7.out.trans (hb8.mono HB7.out.size)); have HN8 := Lib.hid (HN7.out.keep hb8); clear hb8)
    | (go_at_call 8; ((with_reducible refine (nq_g3 _ HN8.out).mono ?_); skip); rintro e w9 ⟨v9, rfl, hb9⟩; have HB9 := Lib.hid (HB8.out.trans (hb9.mono HB8.out.size)); have HN9 := Lib.hid (HN8.out.keep hb9); have HS9 := Lib.hid (spl_lit w9); clear hb9)
    | (go_at_call 9; ((with_reducible refine (nq_m1 _ _ HS9.out).mono ?_); skip); rintro e w10 ⟨rfl, hb10⟩; have HB10 := Lib.hid ((HB9.out.alloc HB9.out.size (.cells #[.int .i64 1, .int .i64 2, .string ⟨#[120, 121]⟩] 40)).trans (hb10.mono (HB9.out.alloc HB9.out.size (.cells #[.int .i64 1, .int .i64 2, .string ⟨#[120, 121]⟩] 40)).size)); have HN10 := Lib.hid ((HN9.out.alloc (.cells #[.int .i64 1, .int .i64 2, .string ⟨#[120, 121]⟩] 40)).keep hb10); have HS10 := Lib.hid ((HS9.out.below hb10).more hb10.size); clear hb10)
    | (go_at_call 9; ((with_reducible refine (nq_m2 _ _ HS10.out).mono ?_); skip); rintro e w11 ⟨rfl, hb11⟩; have HB11 := Lib.hid (HB10.out.trans (hb11.mono HB10.out.size)); have HN11 := Lib.hid (HN10.out.keep hb11); have HS11 := Lib.hid ((HS10.out.below hb11).more hb11.size); clear hb11)
    | (go_at_call 10; ((with_reducible refine (nq_u _ _ HS11.out).mono ?_); skip); rintro e w12 ⟨b, off, c, rfl, hb12, _, u1, u2, u3⟩; have HB12 := Lib.hid (HB11.out.trans (hb12.mono HB11.out.size)); have HN12 := Lib.hid (HN11.out.keep hb12); clear hb12)
    | (go_at_call 11; ((with_reducible refine (nq_d _).mono ?_); skip); rintro e w13 ⟨bd, od, cd, rfl, hb13, hl13, d1, d2, d3⟩; have HB13 := Lib.hid (HB12.out.trans (hb13.mono HB12.out.size)); have HN13 := Lib.hid (HN12.out.keep hb13); have HL13 := Lib.hid hl13; have HD13 := Lib.hid (And.intro d1 (And.intro d2 d3)); clear hb13 hl13 d1 d2 d3 u1 u2 u3)
    | (go_at_call 12; ((with_reducible refine (nq_k _ HN13.out).mono ?_); skip); rintro e w14 ⟨rfl, hb14⟩; have HB14 := Lib.hid (HB13.out.trans (hb14.mono HB13.out.size)); have HN14 := Lib.hid (HN13.out.keep hb14); have HW14 := Lib.hid hb14; clear hb14)
    | (go_at_call 13; ((with_reducible refine (nq_r nm_r1 (by decide) (by decide) (by decide) _ HN14.out).mono ?_); skip); rintro e w15 ⟨t15, rfl, hb15⟩; have HW15 := Lib.hid (HW14.out.trans (hb15.mono HW14.out.size)); have HN15 := Lib.hid (HN14.out.keep hb15); clear hb15)
    | (go_at_call 13; ((with_reducible refine (nq_r nm_r2 (by decide) (by decide) (by decide) _ HN15.out).mono ?_); skip); rintro e w16 ⟨t16, rfl, hb16⟩; have HW16 := Lib.hid (HW15.out.trans (hb16.mono HW15.out.size)); have HN16 := Lib.hid (HN15.out.keep hb16); clear hb16)
    | (go_at_call 13; ((with_reducible refine (nq_r nm_r3 (by decide) (by decide) (by decide) _ HN16.out).mono ?_); skip); rintro e w17 ⟨t17, rfl, hb17⟩; have HW17 := Lib.hid (HW16.out.trans (hb17.mono HW16.out.size)); have HN17 := Lib.hid (HN16.out.keep hb17); have y1 := (HW17.out.cell (p := ⟨bd, od, none⟩) HL13.out).trans HD13.out.1; have y2 := (HW17.out.cell (p := ⟨bd, od + 1, none⟩) HL13.out).trans HD13.out.2.1; have y3 := (HW17.out.cell (p := ⟨bd, od + 2, none⟩) HL13.out).trans HD13.out.2.2; have HB17 := Lib.hid (HB13.out.trans (HW17.out.mono HB13.out.size)); clear hb17)
    | (go_at_call 14; ((with_reducible refine (awake_any _ HN17.out).mono ?_); skip); rintro e w18 ⟨rfl, hb18⟩))
  go_ret
  exact ⟨rfl, HB17.out.trans (hb18.mono HB17.out.size)⟩
end Go.Proofs.YtjadjmkbjolklaaGreatDoor
