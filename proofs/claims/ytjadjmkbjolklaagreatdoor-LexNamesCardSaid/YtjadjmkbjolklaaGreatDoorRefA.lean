/- The contract of the reference's SameTokens. -/
import Derived.Test.YtjadjmkbjolklaaGreatDoorLow
import Derived.Laws.StructEq
import Derived.BigQuiet
import Derived.Deep.QuietTactic
namespace Go.Proofs.YtjadjmkbjolklaaGreatDoor
open Go.RowKit

/-- What a token says. -/
def Piece.tri (x : Piece) : Int × ByteArray × Nat := (x.kind, x.text, x.at_)

/-- Do tokens say the same? -/
def sameP : List Piece → List Piece → Bool
  | [], [] => true
  | x :: r, y :: r' => if x.tri = y.tri then sameP r r' else false
  | _, _ => false

theorem sameP_iff : ∀ (l m : List Piece), sameP l m = true ↔ l.map Piece.tri = m.map Piece.tri
  | [], [] => by simp [sameP]
  | [], y :: r => by simp [sameP]
  | x :: r, [] => by simp [sameP]
  | x :: r, y :: r' => by
    rw [sameP]
    split
    · rename_i h
      simp [h, sameP_iff r r']
    · rename_i h
      simp [h]

theorem sameP_length : ∀ (l m : List Piece), sameP l m = true → l.length = m.length := fun l m h => by
  have := congrArg List.length ((sameP_iff l m).1 h)
  simpa using this

theorem sameP_step (l m : List Piece) (k : Nat) (x y : Piece) (hx : l[k]? = some x) (hy : m[k]? = some y) :
    sameP (l.drop k) (m.drop k) = if x.tri = y.tri then sameP (l.drop (k + 1)) (m.drop (k + 1)) else false := by
  obtain ⟨h1, rfl⟩ := List.getElem?_eq_some_iff.1 hx
  obtain ⟨h2, rfl⟩ := List.getElem?_eq_some_iff.1 hy
  rw [List.drop_eq_getElem_cons h1, List.drop_eq_getElem_cons h2, sameP]

theorem neq63 (w : World) (k a k' a' : Int) (s s' : ByteArray) :
    (binOp .neq 35 (.agg #[.int .u8 k, .string s, .int .i64 a]) (.agg #[.int .u8 k', .string s', .int .i64 a'])).run Tryz.prog w = .ok (.bool (!decide ((k, s, a) = (k', s', a')))) w := by
  have hS : Tryz.prog.underlying 35 = some (.struct (Tryz.prog.fieldsOf 35)) := by kernel_rfl
  have hp : Tryz.prog.stoodInHeld 35 = false := by kernel_rfl
  have u3 := Tryz.underlying3
  have u9 := Tryz.underlying9
  rw [run_neq_struct, show (10000 : Nat) = 9999 + 1 from rfl, run_equalIn_agg w 9999 35 _ _ hS hp]
  simp only [Program.fieldsOf, Tryz.underlying35]
  go_simp
  have hst : (s.toList = s'.toList) = (s = s') := by
    have := toList_beq s s'
    rw [Bool.eq_iff_iff] at this
    simpa using this
  simp only [hst]
  by_cases h1 : k = k' <;> by_cases h2 : s = s' <;> by_cases h3 : a = a' <;> simp [h1, h2, h3]

theorem guard63 : Tryz.prog.eqGuardType Tryz.prog.depth 35 = false := by kernel_rfl

set_option maxRecDepth 100000 in
set_option maxHeartbeats 4000000 in
theorem sameTokens_any (v v' : Value) (l m : List Piece) (w : World) (hl : l.length ≤ 140737488355328) (_ : m.length ≤ 140737488355328) (hv : TokIn w w.heap.size v l) (hv' : TokIn w w.heap.size v' m) :
    Calls Tryz.prog 42 #[v, v'] w fun e w' => e = .returned (.bool (sameP l m)) ∧ Below w.heap.size w w' := by
  obtain ⟨A, c, rfl, hA⟩ := hv
  obtain ⟨A', c', rfl, hA'⟩ := hv'
  have HA := Lib.hid hA
  have HA' := Lib.hid hA'
  clear hA hA'
  by_cases he : l.length = m.length
  · have HE := Lib.hid he
    have heb : ((l.length : Int) != m.length) = false := by simp; omega
    have hs : sameP l m = sameP (l.drop 0) (m.drop 0) := rfl
    clear he
    go_enter Tryz.func42, Tryz.ntmps42
    go_wp2
    go_loopw [5] (fun i wr => ∃ (k : Nat), k ≤ l.length ∧ i = .int .i64 k ∧ Hid (sameP l m = sameP (l.drop k) (m.drop k)) ∧ Below w.heap.size w wr) (fun i _ => l.length - (intOf i).toNat)
    case atStart => exact ⟨0, by omega, rfl, Lib.hid hs, Below.refl _ _⟩
    case round =>
      obtain ⟨k, hk, rfl, HS, hb⟩ := hrel
      by_cases hkl : k < l.length
      · obtain ⟨x, hx⟩ : ∃ x, l[k]? = some x := ⟨_, List.getElem?_eq_getElem hkl⟩
        obtain ⟨y, hy⟩ : ∃ y, m[k]? = some y := ⟨_, List.getElem?_eq_getElem (by rw [← HE.out]; exact hkl)⟩
        obtain ⟨b, off, rfl, hB, g1, g2, g3⟩ := HA.out k x hx
        obtain ⟨b', off', rfl, hB', g1', g2', g3'⟩ := HA'.out k y hy
        have HX := Lib.hid hx
        have HY := Lib.hid hy
        have d1 := (hb.cell (p := ⟨b, _, none⟩) hB).trans g1
        have d2 := (hb.cell (p := ⟨b, _, none⟩) hB).trans g2
        have d3 := (hb.cell (p := ⟨b, _, none⟩) hB).trans g3
        have d1' := (hb.cell (p := ⟨b', _, none⟩) hB').trans g1'
        have d2' := (hb.cell (p := ⟨b', _, none⟩) hB').trans g2'
        have d3' := (hb.cell (p := ⟨b', _, none⟩) hB').trans g3'
        have hkm : k < m.length := by rw [← HE.out]; exact hkl
        clear g1 g2 g3 g1' g2' g3' hx hy
        go_wp2_with fail
        have hgu := guard63
        by_cases ht : x.tri = y.tri
        · have HT := Lib.hid ht
          have hn : ∀ w, (binOp .neq 35 (.agg #[.int .u8 x.kind, .string x.text, .int .i64 x.at_]) (.agg #[.int .u8 y.kind, .string y.text, .int .i64 y.at_])).run Tryz.prog w = .ok (.bool false) w := fun w => by
            rw [neq63, decide_eq_true]
            · rfl
            · simpa [Piece.tri, Int.natCast_inj] using ht
          clear ht
          go_quiet (fail)
          go_wp2
          refine ⟨⟨k + 1, by omega, by go_num, Lib.hid ?_, below_drewN hb _⟩, by simp [intOf]; omega⟩
          rw [HS.out, sameP_step l m k x y HX.out HY.out, if_pos HT.out]
        · have HT := Lib.hid ht
          have hn : ∀ w, (binOp .neq 35 (.agg #[.int .u8 x.kind, .string x.text, .int .i64 x.at_]) (.agg #[.int .u8 y.kind, .string y.text, .int .i64 y.at_])).run Tryz.prog w = .ok (.bool true) w := fun w => by
            rw [neq63, decide_eq_false]
            · rfl
            · simpa [Piece.tri, Int.natCast_inj] using ht
          clear ht
          go_quiet (fail)
          go_wp2
          go_ret
          refine ⟨ret_bool ?_, below_drewN hb _⟩
          rw [HS.out, sameP_step l m k x y HX.out HY.out, if_neg HT.out]
      · obtain rfl : k = l.length := by omega
        go_wp2
        go_ret
        refine ⟨ret_bool ?_, hb⟩
        rw [HS.out, List.drop_eq_nil_of_le (Nat.le_refl _), List.drop_eq_nil_of_le (Nat.le_of_eq HE.out.symm)]
        rfl
  · have HE := Lib.hid he
    have heb : ((l.length : Int) != m.length) = true := by simp; omega
    clear he
    go_enter Tryz.func42, Tryz.ntmps42
    go_wp2
    go_ret
    refine ⟨ret_bool ?_, Below.refl _ _⟩
    cases h : sameP l m with
    | false => rfl
    | true => exact absurd (sameP_length _ _ h) HE.out
end Go.Proofs.YtjadjmkbjolklaaGreatDoor
