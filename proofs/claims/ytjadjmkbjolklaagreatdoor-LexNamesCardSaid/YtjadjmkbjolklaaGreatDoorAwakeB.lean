/- The contract of awake. -/
import Derived.Test.YtjadjmkbjolklaaGreatDoorAwakeA
namespace Go.Proofs.YtjadjmkbjolklaaGreatDoor
open Go.RowKit

theorem spl_new (w : World) (x : Spl) : SplIn (w.alloc (.cells #[.int .i64 x.from_, .int .i64 x.to_, .string x.text] 40)) (w.heap.size + 1) (.slice (some ⟨w.heap.size, 0, none⟩) 1 1) [x] := by
  refine ⟨_, _, rfl, fun i y hy => ?_⟩
  cases i with
  | zero =>
    simp only [List.getElem?_cons_zero, Option.some.injEq] at hy
    subst hy
    exact ⟨_, _, rfl, by omega, cell_of_row _ _ 0 _ 40 (0, 0) (World.alloc_heap_new w _), cell_of_row _ _ 1 _ 40 (0, 0) (World.alloc_heap_new w _), cell_of_row _ _ 2 _ 40 (0, 0) (World.alloc_heap_new w _)⟩
  | succ i => simp at hy

theorem tok_new (w : World) (l : List Piece) (_ : l ≠ []) : TokIn (w.alloc (.cells (tokCells l).toArray 35)) (w.heap.size + 1) (.slice (some ⟨w.heap.size, 0, none⟩) l.length l.length) l := by
  refine ⟨_, _, rfl, fun i y hy => ?_⟩
  have hg := fun j u => cells_get Piece.cells3 3 (fun _ => rfl) l i y hy j u
  have hc : ∀ j u, (tokCells l)[j]? = some u → (w.alloc (.cells (tokCells l).toArray 35)).cell? ⟨w.heap.size, j, none⟩ = some u := fun j u h => by
    rw [World.cell?_alloc_at _ _ _ _ rfl]
    simpa using h
  refine ⟨_, _, rfl, by omega, ?_, ?_, ?_⟩
  · have := hc _ _ (hg 0 _ rfl); simpa using this
  · have := hc _ _ (hg 1 _ rfl); simpa using this
  · have := hc _ _ (hg 2 _ rfl); simpa using this

/-- The worlds of awake, once both lists of tokens are there. -/
structure AwW (w W : World) (v1 v2 : Value) : Prop where
  t1 : TokIn W W.heap.size v1 [⟨1, ⟨#[120]⟩, 0, 0⟩, ⟨4, ⟨#[58, 61]⟩, 1, 0⟩, ⟨2, ⟨#[49]⟩, 3, 0⟩]
  t2 : TokIn W W.heap.size v2 [⟨5, ⟨#[97]⟩, 2, 0⟩]
  nv : NumVars W
  b : Below w.heap.size w W

theorem AwW.next {w W W' : World} {v1 v2 : Value} (h : AwW w W v1 v2) (hb : Below W.heap.size W W') : AwW w W' v1 v2 :=
  ⟨(h.t1.below hb).more hb.size, (h.t2.below hb).more hb.size, h.nv.keep hb, h.b.trans (hb.mono h.b.size)⟩

theorem AwW.alloc {w W : World} {v1 v2 : Value} (h : AwW w W v1 v2) (o : Obj) : AwW w (W.alloc o) v1 v2 := h.next ((Below.refl _ _).alloc (Nat.le_refl _) _)

set_option maxRecDepth 100000 in
set_option maxHeartbeats 4000000 in
theorem awake_any (w : World) (hv : NumVars w) : Calls Tryz.prog 14 #[] w fun e w' => e = .returned (.bool true) ∧ Below w.heap.size w w' := by
  have HV := Lib.hid hv
  clear hv
  go_enter Tryz.func14, Tryz.ntmps14
  go_wp2_with (first
    | (go_at_call 4; refine (tokens_any ⟨#[120, 58, 61, 49, 32, 126, 97]⟩ _ (by show 7 ≤ _; omega) HV.out).mono ?_; rintro e w1 ⟨v1, rfl, hb1, htok⟩; rw [ex1] at htok ⊢; have HT1 := Lib.hid (tokIn_of_own htok); have HV1 := Lib.hid (HV.out.keep hb1); have HB1 := Lib.hid hb1; clear hb1 htok)
    | (go_at_call 41; refine (notes_any ⟨#[120, 32, 126, 97]⟩ _ (by show 4 ≤ _; omega) HV1.out).mono ?_; rintro e w2 ⟨v2, rfl, hb2, htok⟩; rw [if_pos ex2, ex2'] at htok; rw [ex2]; have HA := Lib.hid (AwW.mk ((HT1.out.below hb2).more hb2.size) (tokIn_of_own htok) (HV1.out.keep hb2) (HB1.out.trans (hb2.mono HB1.out.size))); clear hb2 htok HT1 HV1 HB1)
    | (go_at_call 33; refine (apply_any ⟨#[97, 98, 99]⟩ _ [⟨1, 2, ⟨#[120, 121]⟩⟩] _ (by show 3 ≤ _; omega) (by show 1 ≤ _; omega) (by intro x hx; obtain rfl := List.mem_singleton.1 hx; show 2 ≤ _; omega) (by have h := spl_new w2 ⟨1, 2, ⟨#[120, 121]⟩⟩; rw [← World.size_alloc w2 (.cells #[.int .i64 1, .int .i64 2, .string ⟨#[120, 121]⟩] 40)] at h; exact h)).mono ?_; rintro e w3 ⟨rfl, hb3⟩; rw [ex3]; have HA3 := Lib.hid ((HA.out.alloc _).next hb3); clear hb3 HA)
    | (go_at_call 13; refine (rename_any ⟨#[120, 32, 43, 32, 120, 115]⟩ ⟨#[120]⟩ ⟨#[121]⟩ _ (by show 6 ≤ _; omega) (by show 1 ≤ _; omega) (by show 1 ≤ _; omega) HA3.out.nv).mono ?_; rintro e w4 ⟨rfl, hb4⟩; rw [ex4]; have HA4 := Lib.hid (HA3.out.next hb4); clear hb4 HA3)
    | (go_at_call 42; refine (sameTokens_any _ _ [⟨1, ⟨#[120]⟩, 0, 0⟩, ⟨4, ⟨#[58, 61]⟩, 1, 0⟩, ⟨2, ⟨#[49]⟩, 3, 0⟩] [⟨1, ⟨#[120]⟩, 0, 0⟩, ⟨4, ⟨#[58, 61]⟩, 1, 0⟩, ⟨2, ⟨#[49]⟩, 3, 0⟩] _ (by show 3 ≤ _; omega) (by show 3 ≤ _; omega) (HA4.out.alloc _).t1 (by have h := tok_new w4 [⟨1, ⟨#[120]⟩, 0, 0⟩, ⟨4, ⟨#[58, 61]⟩, 1, 0⟩, ⟨2, ⟨#[49]⟩, 3, 0⟩] (by simp); rw [← World.size_alloc w4 (.cells (tokCells [⟨1, ⟨#[120]⟩, 0, 0⟩, ⟨4, ⟨#[58, 61]⟩, 1, 0⟩, ⟨2, ⟨#[49]⟩, 3, 0⟩]).toArray 35)] at h; exact h)).mono ?_; rintro e w5 ⟨rfl, hb5⟩; rw [show sameP [⟨1, ⟨#[120]⟩, 0, 0⟩, ⟨4, ⟨#[58, 61]⟩, 1, 0⟩, ⟨2, ⟨#[49]⟩, 3, 0⟩] [⟨1, ⟨#[120]⟩, 0, 0⟩, ⟨4, ⟨#[58, 61]⟩, 1, 0⟩, ⟨2, ⟨#[49]⟩, 3, 0⟩] = true from rfl]; have HA5 := Lib.hid ((HA4.out.alloc _).next hb5); clear hb5 HA4)
    | (go_at_call 42; refine (sameTokens_any _ _ [⟨5, ⟨#[97]⟩, 2, 0⟩] [⟨5, ⟨#[97]⟩, 2, 0⟩] _ (by show 1 ≤ _; omega) (by show 1 ≤ _; omega) (HA5.out.alloc _).t2 (by have h := tok_new w5 [⟨5, ⟨#[97]⟩, 2, 0⟩] (by simp); rw [← World.size_alloc w5 (.cells (tokCells [⟨5, ⟨#[97]⟩, 2, 0⟩]).toArray 35)] at h; exact h)).mono ?_; rintro e w6 ⟨rfl, hb6⟩; rw [show sameP [⟨5, ⟨#[97]⟩, 2, 0⟩] [⟨5, ⟨#[97]⟩, 2, 0⟩] = true from rfl]; have HA6 := Lib.hid ((HA5.out.alloc _).next hb6); clear hb6 HA5))
  go_ret
  exact ⟨rfl, HA6.out.b⟩
end Go.Proofs.YtjadjmkbjolklaaGreatDoor
