/- The contract of lex.spliceError. -/
import Derived.Test.YtjadjmkbjolklaaDoorPure4
import Derived.Test.YtjadjmkbjolklaaDoorLexD
import Derived.Deep.RegionWith
namespace Go.Proofs.YtjadjmkbjolklaaDoor
open Go.RowKit

set_option maxRecDepth 100000 in
set_option maxHeartbeats 2000000 in
theorem spliceError_any (s : ByteArray) (v : Value) (l : List Spl) (w : World) (_ : s.size ≤ 140737488355328) (hl : l.length ≤ 140737488355328) (ht : ∀ x ∈ l, x.text.size ≤ 140737488355328) (hv : SplIn w w.heap.size v l) :
    Calls Tryd.prog 101 #[.string s, v] w fun e w' => e = .returned (.int .i64 (splErr s l)) ∧ Below w.heap.size w w' := by
  obtain ⟨A, c, rfl, hA⟩ := hv
  have HA := Lib.hid hA
  have HT := Lib.hid ht
  clear hA ht
  by_cases h40 : 40 < l.length
  · go_enter Tryd.func101, Tryd.ntmps101
    go_wp2
    go_ret
    exact ⟨ret_int (by unfold splErr; rw [if_pos h40]), Below.refl _ _⟩
  · go_enter Tryd.func101, Tryd.ntmps101
    go_wp2
    go_loopw [5, 15] (fun last i wr => ∃ (k : Nat) (la : Int), k ≤ l.length ∧ i = .int .i64 k ∧ last = .int .i64 la ∧ Hid (splRight s.size 0 l = splRight s.size la (l.drop k)) ∧ Below w.heap.size w wr) (fun _ i _ => l.length - (intOf i).toNat)
    case atStart => exact ⟨0, 0, by omega, rfl, rfl, Lib.hid rfl, Below.refl _ _⟩
    case round =>
      obtain ⟨k, la, hk, rfl, rfl, HR, hb⟩ := hrel
      by_cases hlt : k < l.length
      · obtain ⟨x, hx⟩ : ∃ x, l[k]? = some x := ⟨_, List.getElem?_eq_getElem hlt⟩
        obtain ⟨b, off, rfl, hB, h1, h2, h3⟩ := HA.out k x hx
        have HX := Lib.hid hx
        have d1 := (hb.cell (p := ⟨b, _, none⟩) hB).trans h1
        have d2 := (hb.cell (p := ⟨b, _, none⟩) hB).trans h2
        have d3 := (hb.cell (p := ⟨b, _, none⟩) hB).trans h3
        clear h1 h2 h3 hx
        have hsz := hb.size
        go_wp2
        all_goals first
          | (go_roundw
             case rel => exact ⟨k + 1, x.to_, by omega, by go_num, rfl, Lib.hid (by rw [HR.out, splRight_step _ _ _ _ _ HX.out, if_neg (by omega)]), hb.alloc hsz _⟩
             case measure => simp [intOf]; omega)
          | (go_ret
             exact ⟨ret_int (by unfold splErr; rw [if_neg h40, if_pos (by rw [HR.out, splRight_step _ _ _ _ _ HX.out, if_pos (by omega)])]), hb.alloc hsz _⟩)
      · have HR2 : Hid (splRight s.size 0 l = true) := Lib.hid (by rw [HR.out, List.drop_eq_nil_of_le (by omega)]; rfl)
        have hsz := hb.size
        clear HR
        go_wp2
        obtain ⟨wo, rfl⟩ : ∃ wo : World, wo = wr := ⟨_, rfl⟩
        go_loopw [42] (fun i wr => ∃ (k : Nat), k ≤ l.length ∧ i = .int .i64 k ∧ Hid (splBad l = splBad (l.drop k)) ∧ Below w.heap.size w wr) (fun i _ => l.length - (intOf i).toNat)
        case atStart => exact ⟨0, by omega, rfl, Lib.hid rfl, hb⟩
        case round =>
          obtain ⟨k, hk, rfl, HR, hb⟩ := hrel
          by_cases hlt : k < l.length
          · obtain ⟨x, hx⟩ : ∃ x, l[k]? = some x := ⟨_, List.getElem?_eq_getElem hlt⟩
            obtain ⟨b, off, rfl, hB, h1, h2, h3⟩ := HA.out k x hx
            have HX := Lib.hid hx
            have hxs := HT.out x (List.mem_of_getElem? hx)
            have d1 := (hb.cell (p := ⟨b, _, none⟩) hB).trans h1
            have d2 := (hb.cell (p := ⟨b, _, none⟩) hB).trans h2
            have d3 := (hb.cell (p := ⟨b, _, none⟩) hB).trans h3
            have hsz := hb.size
            have C83 := Lib.hid (fun w => firstAlien_any x.text w (le_max hxs))
            clear h1 h2 h3 hx
            go_wp2_with fail
            have e2 : (wr.alloc (.cells #[.int .i64 x.from_, .int .i64 x.to_, .string x.text] 56)).cell? ⟨wr.heap.size, 2, none⟩ = some (.string x.text) := by rw [World.cell?_alloc_at _ _ _ _ rfl]; rfl
            have hb1 := hb.alloc hsz (.cells #[.int .i64 x.from_, .int .i64 x.to_, .string x.text] 56)
            have hz1 : wr.heap.size < (wr.alloc (.cells #[.int .i64 x.from_, .int .i64 x.to_, .string x.text] 56)).heap.size := by simp
            generalize wr.alloc (.cells #[.int .i64 x.from_, .int .i64 x.to_, .string x.text] 56) = W1 at e2 hb1 hz1 ⊢
            generalize wr.heap.size = g at e2 hz1 ⊢
            clear d1 d2 d3
            have hsz1 := hb1.size
            go_region_with (go_at_call 83; refine (C83.out _).mono ?_; rintro e w2 ⟨rfl, hb2⟩; have e3 := (hb2.cell (p := ⟨g, 2, none⟩) hz1).trans e2)
            all_goals (
              have HB := Lib.hid (hb1.drew.trans (hb2.mono hsz1))
              clear C83 e2 e3 hb1 hb2)
            all_goals go_wp2
            all_goals first
              | (go_roundw
                 case rel => exact ⟨k + 1, by omega, by go_num, Lib.hid (by rw [HR.out, splBad_step _ _ _ HX.out, if_neg (by omega)]), HB.out⟩
                 case measure => simp [intOf]; omega)
              | (go_ret
                 exact ⟨ret_int (by unfold splErr; rw [if_neg h40, if_neg (by rw [HR2.out]; simp), if_pos (by rw [HR.out, splBad_step _ _ _ HX.out, if_pos (by omega)])]), HB.out⟩)
          · go_wp2
            go_ret
            exact ⟨ret_int (by unfold splErr; rw [if_neg h40, if_neg (by rw [HR2.out]; simp), HR.out, List.drop_eq_nil_of_le (by omega)]; rfl), hb⟩
end Go.Proofs.YtjadjmkbjolklaaDoor
