/- ArenaNames, lifted to its row: no argument at all, as long as the variables that its row lists hold what the library's text lays in them. -/
import Derived.Test.YtklfojmflmablaaGreatDoorNm
import Derived.Test.YtklfojmflmablaaGreatDoorLfq
import Derived.WalkKit
import Derived.ProofKit
namespace Go.Proofs.YtklfojmflmablaaGreatDoor.names10
open Go.ChangeShapes Go.WideShapes Go.ChangeAt Go.RowKit

set_option maxRecDepth 100000 in
theorem lifted (os : Os) (started : os.Started) (H : Type) (enc : TypeId × Value → H) :
    ReturnsInHanded {} Tryz.checked os 10 .any (fun w args => (Rows.arenaNamesSpec.pre enc Tryz.prog Tryz.f10 [] false w args ∧ laidMetH Tryz.prog Rows.arenaNamesRow.laid w) ∧ sizedMet enc Tryz.prog Tryz.f10 (OpenSpec.ofChange Rows.arenaNamesSpec) false w args)
      (Rows.arenaNamesSpec.post enc Tryz.prog Tryz.f10 false true false false) := by
  refine returnsInHanded_of_calls (C := Tryz.checked) own started (by kernel_rfl)
    (ChangeSpec.witness_shaped (enc := enc) (C := Tryz.checked) (os := os) (X := fun w _ => laidMetH Tryz.prog Rows.arenaNamesRow.laid w) false (World.laidAll Tryz.prog os laid7) #[] 8 (World.laidAll_os _ _ _)
      (shape7 os _) (by kernel_rfl) (by kernel_rfl) (by kernel_rfl) (met7 os _)) ?_
  intro w tape i _ hsh _ hok hpre _
  obtain ⟨_, _, _, fn', hfn', _, _, _, _, hval0⟩ := hok
  have efn : fn' = Tryz.f10 := Option.some.inj (hfn'.symm.trans Tryz.func10)
  subst efn
  obtain ⟨⟨⟨ds, gs, before, hw, _⟩, hL⟩, _⟩ := hpre
  have hW := DataW.Whole.of_heap (w' := w.forCall tape i) (by rfl) hw
  have hL' : laidMetH Tryz.prog laid7 (w.forCall tape i) := hL.of_heap (by rfl)
  have hval : ∀ (j : Nat) t v, Tryz.f10.params[j]? = some t → i.args[j]? = some v → Value.okWide Tryz.prog (w.forCall tape i) .any w.heap.size t v := hval0
  generalize w.forCall tape i = W at hW hL' hval hsh ⊢
  obtain ⟨p, q, hA0, hV, hbf, _, _⟩ := id hW
  have hA : DataW.TrodAll enc Tryz.prog W 0 (fun _ => true) true Tryz.f10.params.toList i.args.toList ds p := hA0
  have hp : Tryz.f10.params = #[] := by kernel_rfl
  rw [hp] at hA hval
  generalize i.args = args at hW hA hval ⊢
  obtain ⟨rfl, rfl, rfl⟩ := trodAll_none hA
  obtain ⟨rfl, rfl⟩ := trodVars_none hV
  refine (law10_any W (laid_of7 hsh hL')).mono fun e W' ⟨he, hb⟩ => ?_
  subst he
  refine ChangeSpec.post_blind (post_true rfl rfl ?_ rfl hW hb)
  intro t ht
  rw [hp] at ht
  have hall : ([].all fun u => Tryz.prog.readableRec u && decide (u < Tryz.prog.types.size)) = true := by kernel_rfl
  simpa using List.all_eq_true.1 hall t ht
end Go.Proofs.YtklfojmflmablaaGreatDoor.names10
