/- The contracts of the reference's Spot and At. -/
import Derived.Test.YtjadjmkbjolklaaDoorRefB
namespace Go.Proofs.YtjadjmkbjolklaaDoor
open Go.RowKit

theorem results_refSpot {tmps : Array Value} {W : World} {B : Nat} {x y e : Int} (h : Box2 W B x y) (t4 : tmps[4]?.getD undef = .pointer (some ⟨B, 0, none⟩)) (t5 : tmps[5]?.getD undef = .int .i64 e) :
    (results Tryd.f24 tmps).run Tryd.prog W = .ok (.tuple #[.agg #[.int .i64 x, .int .i64 y], .int .i64 e]) W := by
  have c0 := h.c0
  have c1 := h.c1
  simp [results, Tryd.results24, t4, t5, go_sem, loadVar, c0, c1]

set_option maxRecDepth 100000 in
set_option maxHeartbeats 1000000 in
theorem refSpot_any (s : ByteArray) (k : Int) (w : World) (hs : s.size ≤ 140737488355328) :
    Calls Tryd.prog 24 #[.string s, .int .i64 k] w fun e w' => e = .returned (.tuple #[.agg #[.int .i64 (spotRes s k).1.1, .int .i64 (spotRes s k).1.2], .int .i64 (spotRes s k).2]) ∧ Below w.heap.size w w' := by
  have hnew := Box2.new w 0 0
  have hbw := (Below.refl w.heap.size w).alloc (Nat.le_refl _) (.cells #[.int .i64 0, .int .i64 0] 32)
  have hz : (w.alloc (.cells #[.int .i64 0, .int .i64 0] 32)).heap.size = w.heap.size + 1 := by simp
  have c0 := hnew.c0
  have c1 := hnew.c1
  have c1' := hnew.c1'
  have f0 := hnew.f0
  by_cases he : (textErr s).2 = 0
  · have HE := Lib.hid he
    have heb : ((textErr s).2 != 0) = false := by simpa using he
    clear he
    by_cases h0 : k < 0
    · go_enter Tryd.func24, Tryd.ntmps24
      go_wp2_with (go_at_call 51; refine (refTextError_any s _ hs).mono ?_; rintro e w1 ⟨rfl, rfl⟩)
      refine bodyPost_ret (results_refSpot hnew rfl rfl) rfl ?_
      have hr : spotRes s k = ((0, 0), 3) := by unfold spotRes; rw [if_neg (by rw [HE.out]; simp), if_pos (.inl h0)]
      rw [hr]
      exact ⟨rfl, hbw⟩
    · by_cases h1 : (s.size : Int) < k
      · go_enter Tryd.func24, Tryd.ntmps24
        go_wp2_with (go_at_call 51; refine (refTextError_any s _ hs).mono ?_; rintro e w1 ⟨rfl, rfl⟩)
        refine bodyPost_ret (results_refSpot hnew rfl rfl) rfl ?_
        have hr : spotRes s k = ((0, 0), 3) := by unfold spotRes; rw [if_neg (by rw [HE.out]; simp), if_pos (.inr h1)]
        rw [hr]
        exact ⟨rfl, hbw⟩
      · obtain ⟨n, rfl⟩ : ∃ n : Nat, k = n := ⟨k.toNat, by omega⟩
        clear c0 c1 c1' f0
        go_enter Tryd.func24, Tryd.ntmps24
        go_wp2_with (first
          | (go_at_call 51; refine (refTextError_any s _ hs).mono ?_; rintro e w1 ⟨rfl, rfl⟩)
          | (go_at_call 56; refine (spotOf_any s n _ hs (by omega)).mono ?_; rintro e w2 ⟨rfl, hb2⟩; have hx := hnew.below hb2 (by omega); have c0 := hx.c0; have c1 := hx.c1; have c1' := hx.c1'; have f0 := hx.f0))
        refine bodyPost_ret (results_refSpot (hx.set _ _) rfl rfl) rfl ?_
        have hr : spotRes s n = (((lineP s n : Int), (colP s n : Int)), 0) := by unfold spotRes; rw [if_neg (by rw [HE.out]; simp), if_neg (by omega)]; rfl
        rw [hr]
        exact ⟨rfl, ((hbw.trans (hb2.mono (by omega))).setCell (p := ⟨w.heap.size, 0, none⟩) (Nat.le_refl _) _).setCell (p := ⟨w.heap.size, 1, none⟩) (Nat.le_refl _) _⟩
  · have HE := Lib.hid he
    have heb : ((textErr s).2 != 0) = true := by simpa using he
    clear he
    go_enter Tryd.func24, Tryd.ntmps24
    go_wp2_with (go_at_call 51; refine (refTextError_any s _ hs).mono ?_; rintro e w1 ⟨rfl, rfl⟩)
    refine bodyPost_ret (results_refSpot hnew rfl rfl) rfl ?_
    have hr : spotRes s k = ((0, 0), (textErr s).2) := by unfold spotRes; rw [if_pos HE.out]
    rw [hr]
    exact ⟨rfl, hbw⟩

theorem eql32 (w : World) (a b a' b' : Int) :
    (binOp .eql 32 (.agg #[.int .i64 a, .int .i64 b]) (.agg #[.int .i64 a', .int .i64 b'])).run Tryd.prog w = .ok (.bool (decide ((a, b) = (a', b')))) w := by
  have hS : Tryd.prog.underlying 32 = some (.struct (Tryd.prog.fieldsOf 32)) := by kernel_rfl
  have hp : Tryd.prog.stoodInHeld 32 = false := by kernel_rfl
  have u3 := Tryd.underlying3
  rw [run_eql_struct, show (10000 : Nat) = 9999 + 1 from rfl, run_equalIn_agg w 9999 32 _ _ hS hp]
  simp only [Program.fieldsOf, Tryd.underlying32]
  go_simp
  by_cases h1 : a = a' <;> by_cases h2 : b = b' <;> simp [h1, h2]

theorem neq32 (w : World) (a b a' b' : Int) :
    (binOp .neq 32 (.agg #[.int .i64 a, .int .i64 b]) (.agg #[.int .i64 a', .int .i64 b'])).run Tryd.prog w = .ok (.bool (!decide ((a, b) = (a', b')))) w := by
  have hS : Tryd.prog.underlying 32 = some (.struct (Tryd.prog.fieldsOf 32)) := by kernel_rfl
  have hp : Tryd.prog.stoodInHeld 32 = false := by kernel_rfl
  have u3 := Tryd.underlying3
  rw [run_neq_struct, show (10000 : Nat) = 9999 + 1 from rfl, run_equalIn_agg w 9999 32 _ _ hS hp]
  simp only [Program.fieldsOf, Tryd.underlying32]
  go_simp
  by_cases h1 : a = a' <;> by_cases h2 : b = b' <;> simp [h1, h2]

theorem guard32 : Tryd.prog.eqGuardType Tryd.prog.depth 32 = false := by kernel_rfl
end Go.Proofs.YtjadjmkbjolklaaDoor
