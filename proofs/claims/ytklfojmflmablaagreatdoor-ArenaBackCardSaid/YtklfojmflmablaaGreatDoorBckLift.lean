/- ArenaBack, lifted to its row: whatever arena and move, as long as the variables that its row lists hold what the library's text lays in them. -/
import Derived.Test.YtklfojmflmablaaGreatDoorBm
import Derived.Test.YtklfojmflmablaaGreatDoorLfs
import Derived.Test.YtklfojmflmablaaGreatDoorOpA
import Derived.WalkKit
import Derived.ProofKit
namespace Go.Proofs.YtklfojmflmablaaGreatDoor.back15
open Go.ChangeShapes Go.WideShapes Go.ChangeAt Go.RowKit

set_option maxRecDepth 100000 in
theorem lifted (os : Os) (started : os.Started) (H : Type) (enc : TypeId × Value → H) :
    ReturnsInHanded {} Tryz.checked os 15 .any (fun w args => (Rows.arenaBackSpec.pre enc Tryz.prog Tryz.f15 [] false w args ∧ laidMetH Tryz.prog Rows.arenaBackRow.laid w) ∧ sizedMet enc Tryz.prog Tryz.f15 (OpenSpec.ofChange Rows.arenaBackSpec) false w args)
      (Rows.arenaBackSpec.post enc Tryz.prog Tryz.f15 false true false false) := by
  refine returnsInHanded_of_calls (C := Tryz.checked) own started (by kernel_rfl)
    (ChangeSpec.witness_shaped (enc := enc) (C := Tryz.checked) (os := os) (X := fun w _ => laidMetH Tryz.prog Rows.arenaBackRow.laid w) false (World.laidAll Tryz.prog os laid7) #[.agg #[.slice none 0 0, .bool false, .int .i64 0, .bool false], .agg #[.int .i64 0, .int .i64 0, .int .u8 0, .int .i64 0]] 8 (World.laidAll_os _ _ _)
      (shape7 os _) (by kernel_rfl) (by kernel_rfl) (by kernel_rfl) (met7 os _)) ?_
  intro w tape i _ hsh _ hok hpre _
  obtain ⟨_, _, _, fn', hfn', _, _, _, _, hval0⟩ := hok
  have efn : fn' = Tryz.f15 := Option.some.inj (hfn'.symm.trans Tryz.func15)
  subst efn
  obtain ⟨⟨⟨ds, gs, before, hw, _⟩, hL⟩, _⟩ := hpre
  have hW := DataW.Whole.of_heap (w' := w.forCall tape i) (by rfl) hw
  have hL' : laidMetH Tryz.prog laid7 (w.forCall tape i) := hL.of_heap (by rfl)
  have hval : ∀ (j : Nat) t v, Tryz.f15.params[j]? = some t → i.args[j]? = some v → Value.okWide Tryz.prog (w.forCall tape i) .any w.heap.size t v := hval0
  generalize w.forCall tape i = W at hW hL' hval hsh ⊢
  obtain ⟨p, q, hA0, hV, hbf, _, _⟩ := id hW
  have hA : DataW.TrodAll enc Tryz.prog W 0 (fun _ => true) true Tryz.f15.params.toList i.args.toList ds p := hA0
  have hp : Tryz.f15.params = #[26, 40] := by kernel_rfl
  rw [hp] at hA hval
  generalize i.args = args at hW hA hval ⊢
  obtain ⟨v0, v1, d0, d1, p0, p1, hargs, rfl, rfl, h0, h1⟩ := trodAll_two hA
  obtain rfl : args = #[v0, v1] := by simpa using hargs
  obtain ⟨iv, a, rfl, hin⟩ := open_arena (hval 0 26 v0 rfl rfl) h0
  obtain ⟨m, rfl, c1, c2, c3⟩ := open_move_b (hval 1 40 v1 rfl rfl) h1
  obtain ⟨rfl, rfl⟩ := trodVars_none hV
  refine (law15_any iv a m W (laid_of7 hsh hL') (tab_of7 hL') hin c1 c2 c3).mono fun e W' ⟨he, hb⟩ => ?_
  subst he
  refine ChangeSpec.post_blind (post_true rfl rfl ?_ rfl hW hb)
  intro t ht
  rw [hp] at ht
  have hall : ([26, 40].all fun u => Tryz.prog.readableRec u && decide (u < Tryz.prog.types.size)) = true := by kernel_rfl
  simpa using List.all_eq_true.1 hall t ht
end Go.Proofs.YtklfojmflmablaaGreatDoor.back15
