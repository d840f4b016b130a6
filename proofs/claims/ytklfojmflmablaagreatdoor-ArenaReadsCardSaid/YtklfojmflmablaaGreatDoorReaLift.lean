/- ArenaReads, lifted to its row: whatever text, as long as the variables that its row lists hold what the library's text lays in them. -/
import Derived.Test.YtklfojmflmablaaGreatDoorRdb
import Derived.Test.YtklfojmflmablaaGreatDoorLfs
import Derived.Test.YtklfojmflmablaaGreatDoorOpA
import Derived.WalkKit
import Derived.ProofKit
namespace Go.Proofs.YtklfojmflmablaaGreatDoor.reads8
open Go.ChangeShapes Go.WideShapes Go.ChangeAt Go.RowKit

set_option maxRecDepth 100000 in
theorem lifted (os : Os) (started : os.Started) (H : Type) (enc : TypeId × Value → H) :
    ReturnsInHanded {} Tryz.checked os 8 .any (fun w args => (Rows.arenaReadsSpec.pre enc Tryz.prog Tryz.f8 [] false w args ∧ laidMetH Tryz.prog Rows.arenaReadsRow.laid w) ∧ sizedMet enc Tryz.prog Tryz.f8 (OpenSpec.ofChange Rows.arenaReadsSpec) false w args)
      (Rows.arenaReadsSpec.post enc Tryz.prog Tryz.f8 false true false false) := by
  refine returnsInHanded_of_calls (C := Tryz.checked) own started (by kernel_rfl)
    (ChangeSpec.witness_shaped (enc := enc) (C := Tryz.checked) (os := os) (X := fun w _ => laidMetH Tryz.prog Rows.arenaReadsRow.laid w) false (World.laidAll Tryz.prog os laid7) #[.string ByteArray.empty] 8 (World.laidAll_os _ _ _)
      (shape7 os _) (by kernel_rfl) (by kernel_rfl) (by kernel_rfl) (met7 os _)) ?_
  intro w tape i _ hsh _ hok hpre _
  obtain ⟨_, _, _, fn', hfn', _, _, _, _, hval0⟩ := hok
  have efn : fn' = Tryz.f8 := Option.some.inj (hfn'.symm.trans Tryz.func8)
  subst efn
  obtain ⟨⟨⟨ds, gs, before, hw, _⟩, hL⟩, _⟩ := hpre
  have hW := DataW.Whole.of_heap (w' := w.forCall tape i) (by rfl) hw
  have hL' : laidMetH Tryz.prog laid7 (w.forCall tape i) := hL.of_heap (by rfl)
  have hval : ∀ (j : Nat) t v, Tryz.f8.params[j]? = some t → i.args[j]? = some v → Value.okWide Tryz.prog (w.forCall tape i) .any w.heap.size t v := hval0
  generalize w.forCall tape i = W at hW hL' hval hsh ⊢
  obtain ⟨p, q, hA0, hV, hbf, _, _⟩ := id hW
  have hA : DataW.TrodAll enc Tryz.prog W 0 (fun _ => true) true Tryz.f8.params.toList i.args.toList ds p := hA0
  have hp : Tryz.f8.params = #[9] := by kernel_rfl
  rw [hp] at hA hval
  generalize i.args = args at hW hA hval ⊢
  obtain ⟨v0, d0, rfl, rfl, h0⟩ := trodAll_one hA
  obtain ⟨s, rfl, rfl, rfl, hs⟩ := Go.ChangeMaps.open_string Tryz.underlying9 (hval 0 9 v0 rfl rfl) h0
  obtain ⟨rfl, rfl⟩ := trodVars_none hV
  refine (law8_any s W (laid_of7 hsh hL')).mono fun e W' ⟨he, hb⟩ => ?_
  subst he
  refine ChangeSpec.post_blind (post_true rfl rfl ?_ rfl hW hb)
  intro t ht
  rw [hp] at ht
  have hall : ([9].all fun u => Tryz.prog.readableRec u && decide (u < Tryz.prog.types.size)) = true := by kernel_rfl
  simpa using List.all_eq_true.1 hall t ht
end Go.Proofs.YtklfojmflmablaaGreatDoor.reads8
