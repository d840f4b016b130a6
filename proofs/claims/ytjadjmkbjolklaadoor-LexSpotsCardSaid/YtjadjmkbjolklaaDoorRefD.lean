/- The contract of the reference's At. -/
import Derived.Test.YtjadjmkbjolklaaDoorRefC
namespace Go.Proofs.YtjadjmkbjolklaaDoor
open Go.RowKit

theorem none_step {p : Nat → Prop} {k : Nat} (h : ∀ j : Nat, j < k → ¬p j) (hk : ¬p k) : ∀ j : Nat, j < k + 1 → ¬p j := fun j hj => by
  by_cases e : j = k
  · rw [e]
    exact hk
  · exact h j (by omega)

theorem Box2.past {W W' w2 : World} {B : Nat} {x y : Int} (h : Box2 W B x y) (hb : Below W'.heap.size W' w2) (e : W'.heap = W.heap) : Box2 w2 B x y := by
  have h' : Box2 W' B x y := by unfold Box2 at h ⊢; rw [e]; exact h
  exact h'.below hb h'.lt

set_option maxRecDepth 100000 in
set_option maxHeartbeats 2000000 in
theorem refAt_any (s : ByteArray) (line col : Int) (w : World) (hs : s.size ≤ 140737488355328) :
    Calls Tryd.prog 26 #[.string s, .agg #[.int .i64 line, .int .i64 col]] w fun e w' => ∃ r x, e = .returned (.tuple #[.int .i64 r, .int .i64 x]) ∧ AtSpec s line col r x ∧ Below w.heap.size w w' := by
  have hnew := Box2.new w line col
  have hbw := (Below.refl w.heap.size w).alloc (Nat.le_refl _) (.cells #[.int .i64 line, .int .i64 col] 32)
  have hz : (w.alloc (.cells #[.int .i64 line, .int .i64 col] 32)).heap.size = w.heap.size + 1 := by simp
  by_cases he : (textErr s).2 = 0
  · have HE := Lib.hid he
    have heb : ((textErr s).2 != 0) = false := by simpa using he
    clear he
    go_enter Tryd.func26, Tryd.ntmps26
    go_wp2_with (go_at_call 51; refine (refTextError_any s _ hs).mono ?_; rintro e w1 ⟨rfl, rfl⟩)
    obtain ⟨W1, hW1⟩ : ∃ W1, W1 = w.alloc (.cells #[.int .i64 line, .int .i64 col] 32) := ⟨_, rfl⟩
    rw [← hW1] at hnew hbw hz ⊢
    clear hW1
    go_loopw [8] (fun i wr => ∃ (k : Nat), k ≤ s.size + 1 ∧ i = .int .i64 k ∧ Box2 wr w.heap.size line col ∧ Hid (∀ j : Nat, j < k → ¬((lineP s j : Int) = line ∧ (colP s j : Int) = col)) ∧ Below w.heap.size w wr) (fun i _ => s.size + 1 - (intOf i).toNat)
    case atStart => exact ⟨0, by omega, rfl, hnew, Lib.hid (fun j hj => by omega), hbw⟩
    case round =>
      obtain ⟨k, hk, rfl, hx, HN, hb⟩ := hrel
      by_cases hle : k ≤ s.size
      · have hgu := guard32
        have C56 := Lib.hid (fun w => spotOf_any s k w hs hle)
        have c0 := hx.c0
        have c1 := hx.c1
        have hlt := hx.lt
        have hsz := hb.size
        by_cases heq : (lineP s k : Int) = line ∧ (colP s k : Int) = col
        · have hn : ∀ w, (binOp .eql 32 (.agg #[.int .i64 (lineP s k), .int .i64 (colP s k)]) (.agg #[.int .i64 line, .int .i64 col])).run Tryd.prog w = .ok (.bool true) w := fun w => by
            rw [eql32, decide_eq_true]
            simpa using heq
          have HQ := Lib.hid heq
          clear heq
          go_wp2_with fail
          go_region_with (go_at_call 56; refine (C56.out _).mono ?_; rintro e w2 ⟨rfl, hb2⟩; have hx2 := hx.past hb2 rfl; have c0' := hx2.c0; have c1' := hx2.c1)
          all_goals have HB := Lib.hid (hb.drew.trans (hb2.mono (by rw [World.size_drew]; exact hsz)))
          all_goals clear hb2
          all_goals go_wp2
          all_goals go_ret2
          all_goals exact ⟨_, _, rfl, .inr (.inl ⟨HE.out, rfl, k, hle, rfl, HQ.out.1, HQ.out.2⟩), HB.out⟩
        · have hn : ∀ w, (binOp .eql 32 (.agg #[.int .i64 (lineP s k), .int .i64 (colP s k)]) (.agg #[.int .i64 line, .int .i64 col])).run Tryd.prog w = .ok (.bool false) w := fun w => by
            rw [eql32, decide_eq_false]
            simpa using heq
          have HQ := Lib.hid heq
          clear heq
          go_wp2_with fail
          go_region_with (go_at_call 56; refine (C56.out _).mono ?_; rintro e w2 ⟨rfl, hb2⟩; have hx2 := hx.past hb2 rfl; have c0' := hx2.c0; have c1' := hx2.c1)
          all_goals have HB := Lib.hid (hb.drew.trans (hb2.mono (by rw [World.size_drew]; exact hsz)))
          all_goals clear hb2
          all_goals go_wp2
          all_goals exact ⟨⟨k + 1, by omega, by go_num, hx2, Lib.hid (none_step (p := fun j : Nat => (lineP s j : Int) = line ∧ (colP s j : Int) = col) HN.out HQ.out), HB.out⟩, by simp [intOf]; omega⟩
      · have hnone : AtSpec s line col 0 7 := .inr (.inr ⟨HE.out, rfl, rfl, fun j hj => HN.out j (by omega)⟩)
        go_wp2
        go_ret2
        exact ⟨_, _, rfl, hnone, hb⟩
  · have HE := Lib.hid he
    have heb : ((textErr s).2 != 0) = true := by simpa using he
    clear he
    go_enter Tryd.func26, Tryd.ntmps26
    go_wp2_with (go_at_call 51; refine (refTextError_any s _ hs).mono ?_; rintro e w1 ⟨rfl, rfl⟩)
    go_ret2
    exact ⟨_, _, rfl, .inl ⟨HE.out, rfl, rfl⟩, hbw⟩
end Go.Proofs.YtjadjmkbjolklaaDoor
