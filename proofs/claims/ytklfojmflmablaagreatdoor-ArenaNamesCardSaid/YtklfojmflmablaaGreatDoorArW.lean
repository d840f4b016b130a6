/- Package arena: add, of right.moves: a move behind the others. -/
import Derived.Test.YtklfojmflmablaaGreatDoorArV
import Derived.Test.YtklfojmflmablaaGreatDoorArS
import Derived.Test.YtklfojmflmablaaGreatDoorArU
namespace Go.Proofs.YtklfojmflmablaaGreatDoor
open Go Go.RowKit Go.Shelf
attribute [local go_sem] Oper.semAt_some

def Mv.cells4 (m : Mv) : List Value := [.int .i64 m.id, .int .i64 m.arg, .int .u8 m.kind, .int .i64 m.n]
def mvCells (l : List Mv) : List Value := l.flatMap Mv.cells4
theorem mvCells_append (l l' : List Mv) : mvCells (l ++ l') = mvCells l ++ mvCells l' := by simp [mvCells]
theorem info40 : (Tryz.prog.info? 40).map (fun i => (i.zero, i.size, i.bytes)) = some (some (.agg #[.int .i64 0, .int .i64 0, .int .u8 0, .int .i64 0]), 4, 32) := by kernel_rfl
theorem cells_new (w : World) (t : TypeId) (cs : List Value) : ∀ j u, cs[j]? = some u → (w.alloc (.cells cs.toArray t)).cell? (Addr.add ⟨w.heap.size, 0, none⟩ j) = some u := by
  intro j u hu
  have hadd : (⟨w.heap.size, 0, none⟩ : Addr).add j = ⟨w.heap.size, j, none⟩ := by unfold Addr.add; split <;> simp_all
  rw [hadd, cell_of_row _ _ j _ t (0, 0) (World.alloc_heap_new w _)]
  simpa using hu

set_option maxRecDepth 100000 in
set_option maxHeartbeats 1000000 in
theorem add_any (m : Mv) (n₀ bl : Nat) (l : List Mv) (R : Sets) (W : World) (hn : n₀ ≤ W.heap.size) (hl : l.length ≤ 100000) (h : Acc n₀ bl 32 40 4 l.length (mvCells l) R W) :
    Calls Tryz.prog 152 #[mvV m, .pointer (some ⟨bl, 0, none⟩)] W fun e W' => e = .returned (.bool true) ∧ ∃ R', Acc n₀ bl 32 40 4 (l ++ [m]).length (mvCells (l ++ [m])) R' W' ∧ Foot R W R' W' := by
  obtain ⟨v, hv, hr, hR⟩ := h
  have HL := Lib.hid hl
  have HN := Lib.hid hn
  have HR := Lib.hid hR
  have HV := Lib.hid hv
  have HROW := Lib.hid hr
  obtain ⟨i0, hi, hz0, hz1, hz2⟩ := info_parts info40
  obtain ⟨W1, hW1⟩ : ∃ W1, W.alloc (.cells #[.int .i64 m.id, .int .i64 m.arg, .int .u8 m.kind, .int .i64 m.n] 40) = W1 := ⟨_, rfl⟩
  have o1 : Only (fun _ => False) W W1 := by rw [← hW1]; exact (Only.refl _ _).alloc _
  have bm : BoxM W1 W.heap.size m := by rw [← hW1]; exact BoxM.new W m
  have hv1 : Boxed W1 bl 32 v := (o1.block bl hv.lt (fun f => f)).trans hv
  have HO := Lib.hid o1
  have m0 := bm.c0
  have m1 := bm.c1
  have m2 := bm.c2
  have m3 := bm.c3
  have cb := hv1.cell
  have fb := hv1.frozen
  have hr1 : W1.ownsRow n₀ 40 4 v l.length (mvCells l) := by rw [← hW1]; exact hr.alloc _
  unfold mvV
  clear hl hn hR hv hr o1 bm hv1
  go_enter Tryz.func152, Tryz.ntmps152
  go_wp2_with (at_builtin; refine wpList_append_own_at _ rfl _ _ 32 rfl n₀ 40 i0 _ 4 32 Tryz.underlying32 hi hz0 hz1 hz2 rfl (by decide) _ _ _ rfl (hr1.alloc _) ⟨W1.heap.size, 0, none⟩ 1 1 [.int .i64 m.id, .int .i64 m.arg, .int .u8 m.kind, .int .i64 m.n] rfl rfl (cells_new _ _ _) (by simp [Value.oneCell']) (by have := HL.out; unfold maxLen; omega) (by have := HL.out; omega) (by have := HN.out; have := HO.out.size; simp; omega) ?_; intro v' w2 hown' hgrow _ hat; obtain ⟨g', cap', rfl⟩ := ownsRow_succ hown'; obtain ⟨hb2, R', hA, hF⟩ := Acc.appended (by decide) HV.out HROW.out HR.out (HO.out.trans ((Only.refl (fun _ => False) W1).alloc _) (fun _ _ f => f)) hown' hgrow hat; have cb2 := hb2.cell; have fb2 := hb2.frozen)
  go_ret
  refine ⟨rfl, R', ?_, hF⟩
  rw [mvCells_append, List.length_append]
  exact hA
end Go.Proofs.YtklfojmflmablaaGreatDoor
