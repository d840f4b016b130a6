/- The contract of lex.Spot. -/
import Derived.Test.YtjadjmkbjolklaaDoorPure7
import Derived.Test.YtjadjmkbjolklaaDoorLexI
namespace Go.Proofs.YtjadjmkbjolklaaDoor
open Go.RowKit

/-- What lex.Spot returns. -/
def spotRes (s : ByteArray) (k : Int) : (Int × Int) × Int :=
  if (textErr s).2 ≠ 0 then ((0, 0), (textErr s).2) else if k < 0 ∨ (s.size : Int) < k then ((0, 0), 3) else (((lineP s k.toNat : Int), (colP s k.toNat : Int)), 0)

theorem count_at (s : ByteArray) (k : Int) (w : World) (h0 : 0 ≤ k) (h1 : k ≤ s.size) :
    Calls Tryd.prog 54 #[.string (s.extract 0 k.toNat), .string ⟨#[10]⟩] w fun e w' => e = .returned (.int .i64 ((lineP s k.toNat : Int) - 1)) ∧ w = w' := by
  refine (Tryd.strings_Count_one _ 10 w).mono ?_
  rintro e w' ⟨rfl, rfl⟩
  refine ⟨?_, rfl⟩
  have := countP s k.toNat (by omega)
  rw [this]
  congr 2
  omega

theorem last_at (s : ByteArray) (k : Int) (w : World) (hs : s.size ≤ 140737488355328) (h0 : 0 ≤ k) (h1 : k ≤ s.size) :
    Calls Tryd.prog 55 #[.string (s.extract 0 k.toNat), .int .u8 10] w fun e w' => e = .returned (.int .i64 (k - (colP s k.toNat : Int))) ∧ w = w' := by
  have hz : (s.extract 0 k.toNat).size = k.toNat := by simp; omega
  refine (Tryd.strings_LastIndexByte _ 10 (by omega) w).mono ?_
  rintro e w' ⟨rfl, rfl⟩
  refine ⟨?_, rfl⟩
  have := lastIdx_col s k.toNat (by omega) k.toNat (Nat.le_refl _)
  unfold Lib.lastIndexByte
  rw [hz]
  congr 2
  omega

/-- A block that holds a spot. -/
def Box2 (W : World) (B : Nat) (x y : Int) : Prop := W.heap[B]? = some (.cells #[.int .i64 x, .int .i64 y] 32 (0, 0))

theorem Box2.lt {W : World} {B : Nat} {x y : Int} (h : Box2 W B x y) : B < W.heap.size := (Array.getElem?_eq_some_iff.1 h).1
theorem Box2.c0 {W : World} {B : Nat} {x y : Int} (h : Box2 W B x y) : W.cell? ⟨B, 0, none⟩ = some (.int .i64 x) := cell_of_row W B 0 _ 32 (0, 0) h
theorem Box2.c1 {W : World} {B : Nat} {x y : Int} (h : Box2 W B x y) : W.cell? ⟨B, 1, none⟩ = some (.int .i64 y) := cell_of_row W B 1 _ 32 (0, 0) h
theorem Box2.f0 {W : World} {B : Nat} {x y : Int} (h : Box2 W B x y) (i : Nat) : W.frozen? ⟨B, i, none⟩ = false := by simp [World.frozen?, show W.heap[B]? = _ from h]
theorem Box2.new (W : World) (x y : Int) : Box2 (W.alloc (.cells #[.int .i64 x, .int .i64 y] 32)) W.heap.size x y := World.alloc_heap_new W _
theorem Box2.below {W W' : World} {B n : Nat} {x y : Int} (h : Box2 W B x y) (hb : Below n W W') (hn : B < n) : Box2 W' B x y := (hb.block B hn).trans h
theorem Box2.set {W : World} {B : Nat} {x y : Int} (h : Box2 W B x y) (x' y' : Int) : Box2 ((W.setCell ⟨B, 0, none⟩ (.int .i64 x')).setCell ⟨B, 1, none⟩ (.int .i64 y')) B x' y' := by
  have h1 := heap_setCell_same W B 0 _ 32 (.int .i64 x') h
  exact heap_setCell_same _ B 1 _ 32 (.int .i64 y') h1
theorem Box2.c1' {W : World} {B : Nat} {x y : Int} (h : Box2 W B x y) (v : Value) : (W.setCell ⟨B, 0, none⟩ v).cell? ⟨B, 1, none⟩ = some (.int .i64 y) := by
  have h1 := heap_setCell_same W B 0 _ 32 v h
  exact cell_of_row _ B 1 _ 32 (0, 0) h1

theorem results_spot {tmps : Array Value} {W : World} {B : Nat} {x y e : Int} (h : Box2 W B x y) (t4 : tmps[4]?.getD undef = .pointer (some ⟨B, 0, none⟩)) (t5 : tmps[5]?.getD undef = .int .i64 e) :
    (results Tryd.f23 tmps).run Tryd.prog W = .ok (.tuple #[.agg #[.int .i64 x, .int .i64 y], .int .i64 e]) W := by
  have c0 := h.c0
  have c1 := h.c1
  simp [results, Tryd.results23, t4, t5, go_sem, loadVar, c0, c1]

set_option maxRecDepth 100000 in
set_option maxHeartbeats 1000000 in
theorem spot_any (s : ByteArray) (k : Int) (w : World) (hs : s.size ≤ 140737488355328) :
    Calls Tryd.prog 23 #[.string s, .int .i64 k] w fun e w' => e = .returned (.tuple #[.agg #[.int .i64 (spotRes s k).1.1, .int .i64 (spotRes s k).1.2], .int .i64 (spotRes s k).2]) ∧ Below w.heap.size w w' := by
  have hnew := Box2.new w 0 0
  have hbw := (Below.refl w.heap.size w).alloc (Nat.le_refl _) (.cells #[.int .i64 0, .int .i64 0] 32)
  have hz : (w.alloc (.cells #[.int .i64 0, .int .i64 0] 32)).heap.size = w.heap.size + 1 := by simp
  by_cases he : (textErr s).2 = 0
  · have HE := Lib.hid he
    have heb : ((textErr s).2 != 0) = false := by simpa using he
    clear he
    by_cases h0 : k < 0
    · go_enter Tryd.func23, Tryd.ntmps23
      go_wp2_with (go_at_call 48; refine (textError_any s _ (le_max hs)).mono ?_; rintro e w1 ⟨rfl, hb1⟩; have hx := hnew.below hb1 (by omega); have c0 := hx.c0; have c1 := hx.c1; have c1' := hx.c1'; have f0 := hx.f0)
      refine bodyPost_ret (results_spot (hx.set _ _) rfl rfl) rfl ?_
      have hr : spotRes s k = ((0, 0), 3) := by unfold spotRes; rw [if_neg (by rw [HE.out]; simp), if_pos (.inl h0)]
      rw [hr]
      exact ⟨rfl, ((hbw.trans (hb1.mono (by omega))).setCell (p := ⟨w.heap.size, 0, none⟩) (Nat.le_refl _) _).setCell (p := ⟨w.heap.size, 1, none⟩) (Nat.le_refl _) _⟩
    · by_cases h1 : (s.size : Int) < k
      · go_enter Tryd.func23, Tryd.ntmps23
        go_wp2_with (go_at_call 48; refine (textError_any s _ (le_max hs)).mono ?_; rintro e w1 ⟨rfl, hb1⟩; have hx := hnew.below hb1 (by omega); have c0 := hx.c0; have c1 := hx.c1; have c1' := hx.c1'; have f0 := hx.f0)
        refine bodyPost_ret (results_spot (hx.set _ _) rfl rfl) rfl ?_
        have hr : spotRes s k = ((0, 0), 3) := by unfold spotRes; rw [if_neg (by rw [HE.out]; simp), if_pos (.inr h1)]
        rw [hr]
        exact ⟨rfl, ((hbw.trans (hb1.mono (by omega))).setCell (p := ⟨w.heap.size, 0, none⟩) (Nat.le_refl _) _).setCell (p := ⟨w.heap.size, 1, none⟩) (Nat.le_refl _) _⟩
      · have q1 := lineP_pos s k.toNat
        have q2 := lineP_le s k.toNat
        have q3 := colP_pos s k.toNat
        have q4 := colP_le s k.toNat
        go_enter Tryd.func23, Tryd.ntmps23
        go_wp2_with (first
          | (go_at_call 48; refine (textError_any s _ (le_max hs)).mono ?_; rintro e w1 ⟨rfl, hb1⟩; have hx := hnew.below hb1 (by omega); have c0 := hx.c0; have c1 := hx.c1; have c1' := hx.c1'; have f0 := hx.f0)
          | (go_at_call 54; refine (count_at s k _ (by omega) (by omega)).mono ?_; rintro e w' ⟨rfl, rfl⟩)
          | (go_at_call 55; refine (last_at s k _ hs (by omega) (by omega)).mono ?_; rintro e w' ⟨rfl, rfl⟩))
        rw [show (1 + ((lineP s k.toNat : Int) - 1)) = lineP s k.toNat by omega, show (k - (k - (colP s k.toNat : Int))) = colP s k.toNat by omega]
        refine bodyPost_ret (results_spot (hx.set _ _) rfl rfl) rfl ?_
        have hr : spotRes s k = (((lineP s k.toNat : Int), (colP s k.toNat : Int)), 0) := by unfold spotRes; rw [if_neg (by rw [HE.out]; simp), if_neg (by omega)]
        rw [hr]
        exact ⟨rfl, ((hbw.trans (hb1.mono (by omega))).setCell (p := ⟨w.heap.size, 0, none⟩) (Nat.le_refl _) _).setCell (p := ⟨w.heap.size, 1, none⟩) (Nat.le_refl _) _⟩
  · have HE := Lib.hid he
    have heb : ((textErr s).2 != 0) = true := by simpa using he
    clear he
    go_enter Tryd.func23, Tryd.ntmps23
    go_wp2_with (go_at_call 48; refine (textError_any s _ (le_max hs)).mono ?_; rintro e w1 ⟨rfl, hb1⟩; have hx := hnew.below hb1 (by omega); have c0 := hx.c0; have c1 := hx.c1; have c1' := hx.c1'; have f0 := hx.f0)
    refine bodyPost_ret (results_spot (hx.set 0 0) rfl rfl) rfl ?_
    have hr : spotRes s k = ((0, 0), (textErr s).2) := by unfold spotRes; rw [if_pos HE.out]
    rw [hr]
    exact ⟨rfl, ((hbw.trans (hb1.mono (by omega))).setCell (p := ⟨w.heap.size, 0, none⟩) (Nat.le_refl _) _).setCell (p := ⟨w.heap.size, 1, none⟩) (Nat.le_refl _) _⟩
end Go.Proofs.YtjadjmkbjolklaaDoor
