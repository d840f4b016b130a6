/- Package arena: Under$1, Answers$1, and the functions over told; all moves. -/
import Derived.Test.YtklfojmflmablaaGreatDoorTm
import Derived.Test.YtklfojmflmablaaGreatDoorFn
import Derived.Test.YtklfojmflmablaaGreatDoorLn
namespace Go.Proofs.YtklfojmflmablaaGreatDoor
open Go Go.RowKit Go.Shelf

theorem rowMv_less {W : World} {n n' : Nat} {v : Value} {l : List Mv} (h : W.ownsRow n 40 4 v l.length (mvCells l)) (hn : n' ≤ n) : W.ownsRow n' 40 4 v l.length (mvCells l) := by
  refine ⟨h.1, ?_⟩
  rcases h.2 with h | ⟨g, cap, cur, e, hb, rest⟩
  · exact .inl h
  · exact .inr ⟨g, cap, cur, e, by omega, rest⟩

/-- The moves v' of the list l, in a slice of the call's own. -/
def OwnMv (W : World) (n : Nat) (v : Value) (l : List Mv) : Prop := W.ownsRow n 40 4 v l.length (mvCells l)
theorem OwnMv.nil (W : World) (n : Nat) : OwnMv W n (.slice none 0 0) [] := World.ownsRow_nil _ _ _ _

def underRes (a : Ar) (m : Mv) (p : Pl) : List Mv × Int := if m.kind = 3 then ([], 2) else (movesBy a (underB p) quests, 0)

set_option maxRecDepth 100000 in
set_option maxHeartbeats 1000000 in
theorem under1b_any (v : Value) (a : Ar) (m : Mv) (p : Pl) (B : Nat) (W : World) (hck : checkRes a = 0) (hm : BoxM W B m) (hv : TyIn W W.heap.size v a.ids) :
    Calls Tryz.prog 91 #[arV v a.root a.jumps, plV p, .pointer (some ⟨B, 0, none⟩)] W fun e W' => ∃ x er, e = .returned (.tuple #[x, .int .i64 er]) ∧ (er = (underRes a m p).2 ∧ OwnMv W' W.heap.size x (underRes a m p).1) ∧ Below W.heap.size W W' := by
  have HV := Lib.hid hv
  have HC := Lib.hid hck
  obtain ⟨A, c, rfl⟩ := tyIn_slice hv
  obtain ⟨w1, hw1⟩ : ∃ w1, (W.alloc (.cells #[.slice A a.ids.length c, .bool a.root.cell, .int .i64 a.root.n, .bool a.jumps] 105)).alloc (.cells #[.bool p.b.cell, .int .i64 p.b.n, .int .i64 p.id, .int .i64 p.arg, .bool p.jumps] 111) = w1 := ⟨_, rfl⟩
  have hb : Below W.heap.size W w1 := by rw [← hw1]; exact ((Below.refl _ W).alloc (Nat.le_refl _) _).alloc (by simp) _
  have x0 : w1.heap[W.heap.size]? = some (.cells #[.slice A a.ids.length c, .bool a.root.cell, .int .i64 a.root.n, .bool a.jumps] 105 (0, 0)) := by rw [← hw1]; exact (Below.heap_alloc _ _ _ (by simp)).trans (World.alloc_heap_new W _)
  have x1 : BoxP w1 (W.heap.size + 1) p := by
    rw [← hw1]; have := BoxP.new (W.alloc (.cells #[.slice A a.ids.length c, .bool a.root.cell, .int .i64 a.root.n, .bool a.jumps] 105)) p; rwa [World.size_alloc] at this
  have x2 : BoxM w1 B m := (hb.block _ hm.lt).trans hm
  have HB := Lib.hid hb
  have HX0 : Hid (W.heap.size < w1.heap.size) := Lib.hid (Array.getElem?_eq_some_iff.1 x0).1
  have c0 := cell_of_row w1 _ 0 _ 105 (0, 0) x0
  have c1 := cell_of_row w1 _ 1 _ 105 (0, 0) x0
  have c2 := cell_of_row w1 _ 2 _ 105 (0, 0) x0
  have c3 := cell_of_row w1 _ 3 _ 105 (0, 0) x0
  have p0 := x1.c0
  have p1 := x1.c1
  have p2 := x1.c2
  have p3 := x1.c3
  have p4 := x1.c4
  have m2 := x2.c2
  have C92 := Lib.hid (under_any p)
  have C72 : Hid (∀ W2 fv, Below w1.heap.size w1 W2 → SoFn fv (underB p) W2.heap.size W2 → Calls Tryz.prog 72 #[.agg #[.slice A a.ids.length c, .bool a.root.cell, .int .i64 a.root.n, .bool a.jumps], fv, .func (.func 93) #[] #[]] W2 fun e w' =>
      ∃ v', e = .returned v' ∧ Below W2.heap.size W2 w' ∧ OwnMv w' W2.heap.size v' (movesBy a (underB p) quests)) := Lib.hid fun W2 fv h2 hf =>
    moves_any (.slice A a.ids.length c) a fv (underB p) _ quests W2 (check_small HC.out).1 (places_64 HC.out) (movesBy_quests HC.out) (tyIn_later HV.out (HB.out.trans (h2.mono HB.out.size))) hf quests_some
  unfold plV at C92 ⊢
  unfold arV
  clear hb x0 x1 x2 hm hv hck
  by_cases hk : m.kind = 3
  · have hkb : ((m.kind == 3) : Bool) = true := by simp [hk]
    have HR : Hid (underRes a m p = ([], 2)) := Lib.hid (by unfold underRes; rw [if_pos hk])
    clear hk
    go_enter Tryz.func91, Tryz.ntmps91
    go_wp2
    refine bodyPost_ret (results_tmp2 rfl _ _ _) rfl ?_
    rw [HR.out]
    exact ⟨_, _, rfl, ⟨rfl, OwnMv.nil _ _⟩, HB.out⟩
  · have hkb : ((m.kind == 3) : Bool) = false := by simp [hk]
    have HR : Hid (underRes a m p = (movesBy a (underB p) quests, 0)) := Lib.hid (by unfold underRes; rw [if_neg hk])
    clear hk
    go_enter Tryz.func91, Tryz.ntmps91
    go_wp2
    go_region_with (first
      | (go_at_call 92; refine (C92.out _).mono ?_; rintro e w2 ⟨fv, rfl, hb2', hsf⟩; have hb2 : Below w1.heap.size w1 w2 := ((Below.refl _ w1).drew).trans hb2'; have q0 := (hb2.cell (p := ⟨W.heap.size, 0, none⟩) HX0.out).trans c0; have q1 := (hb2.cell (p := ⟨W.heap.size, 1, none⟩) HX0.out).trans c1; have q2 := (hb2.cell (p := ⟨W.heap.size, 2, none⟩) HX0.out).trans c2; have q3 := (hb2.cell (p := ⟨W.heap.size, 3, none⟩) HX0.out).trans c3)
      | (go_at_call 72; refine (C72.out _ _ hb2 hsf).mono ?_; rintro e w3 ⟨v3, rfl, hb3, hown⟩))
    all_goals go_wp2
    all_goals refine bodyPost_ret (results_tmp2 rfl _ _ _) rfl ?_
    all_goals rw [HR.out]
    all_goals refine ⟨_, _, rfl, ⟨rfl, rowMv_less hown (Nat.le_trans HB.out.size hb2.size)⟩, HB.out.trans ((hb2.trans (hb3.mono hb2.size)).mono HB.out.size)⟩
end Go.Proofs.YtklfojmflmablaaGreatDoor
