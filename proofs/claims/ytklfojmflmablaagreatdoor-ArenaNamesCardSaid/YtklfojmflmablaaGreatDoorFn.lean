/- Package arena: IsOther. -/
import Derived.BigQuiet
import Derived.Deep.QuietTactic
import Derived.Test.YtklfojmflmablaaGreatDoorTo
namespace Go.Proofs.YtklfojmflmablaaGreatDoor
open Go Go.RowKit Go.Shelf

/-- The contract of isCalled in a form that go_quiet takes. -/
theorem isOther1_any (v : Value) (root : Bs) (ju : Bool) (m : Mv) (p : Pl) (B : Nat) (W : World) (hm : BoxM W B m) (hv : ∃ A n c, v = .slice A n c) :
    Calls Tryz.prog 84 #[arV v root ju, plV p, .pointer (some ⟨B, 0, none⟩)] W fun e W' => e = .returned (.tuple #[.bool (isCalled p == decide (m.kind = 3)), .int .i64 0]) ∧ Below W.heap.size W W' := by
  obtain ⟨A, n, c, rfl⟩ := hv
  obtain ⟨w1, hw1⟩ : ∃ w1, (W.alloc (.cells #[.slice A n c, .bool root.cell, .int .i64 root.n, .bool ju] 105)).alloc (.cells #[.bool p.b.cell, .int .i64 p.b.n, .int .i64 p.id, .int .i64 p.arg, .bool p.jumps] 111) = w1 := ⟨_, rfl⟩
  have hb : Below W.heap.size W w1 := by rw [← hw1]; exact ((Below.refl _ W).alloc (Nat.le_refl _) _).alloc (by simp) _
  have x1 : BoxP w1 (W.heap.size + 1) p := by
    rw [← hw1]; have := BoxP.new (W.alloc (.cells #[.slice A n c, .bool root.cell, .int .i64 root.n, .bool ju] 105)) p; rwa [World.size_alloc] at this
  have x2 : BoxM w1 B m := (hb.block _ hm.lt).trans hm
  have HB := Lib.hid hb
  have HX2 := Lib.hid x2
  have p0 := x1.c0
  have p1 := x1.c1
  have p2 := x1.c2
  have p3 := x1.c3
  have p4 := x1.c4
  have m2 := x2.c2
  have C85 := Lib.hid (isCalled_any p)
  unfold plV at C85 ⊢
  unfold arV
  clear hb x1 x2 hm
  go_enter Tryz.func84, Tryz.ntmps84
  go_wp2
  have hd : ((m.kind == 3) : Bool) = decide (m.kind = 3) := by by_cases h : m.kind = 3 <;> simp [h]
  have HD := Lib.hid hd
  clear hd
  go_region_with (go_at_call 85; refine (C85.out _).mono ?_; rintro e w2 ⟨rfl, hb2⟩; have n2 := (hb2.cell (p := ⟨B, 2, none⟩) HX2.out.lt).trans m2)
  all_goals go_wp2
  all_goals refine bodyPost_ret (results_tmp2 rfl _ _ _) rfl ?_
  all_goals refine ⟨?_, HB.out.drew.trans (hb2.mono HB.out.size)⟩
  all_goals rw [← HD.out]
  all_goals rfl
end Go.Proofs.YtklfojmflmablaaGreatDoor
