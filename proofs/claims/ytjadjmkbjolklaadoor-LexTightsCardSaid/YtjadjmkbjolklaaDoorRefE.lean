/- The contract of the reference's SameSplices. -/
import Derived.Test.YtjadjmkbjolklaaDoorRefA
import Derived.Laws.StructEq
import Derived.BigQuiet
import Derived.Deep.QuietTactic
namespace Go.Proofs.YtjadjmkbjolklaaDoor
open Go.RowKit

/-- What a splice says. -/
def Spl.tri (x : Spl) : Int × Int × ByteArray := (x.from_, x.to_, x.text)

/-- Do splices say the same? -/
def sameS : List Spl → List Spl → Bool
  | [], [] => true
  | x :: r, y :: r' => if x.tri = y.tri then sameS r r' else false
  | _, _ => false

theorem sameS_iff : ∀ (l m : List Spl), sameS l m = true ↔ l.map Spl.tri = m.map Spl.tri
  | [], [] => by simp [sameS]
  | [], y :: r => by simp [sameS]
  | x :: r, [] => by simp [sameS]
  | x :: r, y :: r' => by
    rw [sameS]
    split
    · rename_i h
      simp [h, sameS_iff r r']
    · rename_i h
      simp [h]

theorem sameS_length : ∀ (l m : List Spl), sameS l m = true → l.length = m.length := fun l m h => by
  have := congrArg List.length ((sameS_iff l m).1 h)
  simpa using this

theorem sameS_step (l m : List Spl) (k : Nat) (x y : Spl) (hx : l[k]? = some x) (hy : m[k]? = some y) :
    sameS (l.drop k) (m.drop k) = if x.tri = y.tri then sameS (l.drop (k + 1)) (m.drop (k + 1)) else false := by
  obtain ⟨h1, rfl⟩ := List.getElem?_eq_some_iff.1 hx
  obtain ⟨h2, rfl⟩ := List.getElem?_eq_some_iff.1 hy
  rw [List.drop_eq_getElem_cons h1, List.drop_eq_getElem_cons h2, sameS]

theorem neq56 (w : World) (k a k' a' : Int) (s s' : ByteArray) :
    (binOp .neq 56 (.agg #[.int .i64 k, .int .i64 a, .string s]) (.agg #[.int .i64 k', .int .i64 a', .string s'])).run Tryd.prog w = .ok (.bool (!decide ((k, a, s) = (k', a', s')))) w := by
  have hS : Tryd.prog.underlying 56 = some (.struct (Tryd.prog.fieldsOf 56)) := by kernel_rfl
  have hp : Tryd.prog.stoodInHeld 56 = false := by kernel_rfl
  have u3 := Tryd.underlying3
  have u9 := Tryd.underlying9
  rw [run_neq_struct, show (10000 : Nat) = 9999 + 1 from rfl, run_equalIn_agg w 9999 56 _ _ hS hp]
  simp only [Program.fieldsOf, Tryd.underlying56]
  go_simp
  have hst : (s.toList = s'.toList) = (s = s') := by
    have := toList_beq s s'
    rw [Bool.eq_iff_iff] at this
    simpa using this
  simp only [hst]
  by_cases h1 : k = k' <;> by_cases h2 : s = s' <;> by_cases h3 : a = a' <;> simp [h1, h2, h3]

theorem guard56 : Tryd.prog.eqGuardType Tryd.prog.depth 56 = false := by kernel_rfl

set_option maxRecDepth 100000 in
set_option maxHeartbeats 4000000 in
theorem sameSplices_any (v v' : Value) (l m : List Spl) (w : World) (hl : l.length ≤ 140737488355328) (_ : m.length ≤ 140737488355328) (hv : SplIn w w.heap.size v l) (hv' : SplIn w w.heap.size v' m) :
    Calls Tryd.prog 40 #[v, v'] w fun e w' => e = .returned (.bool (sameS l m)) ∧ Below w.heap.size w w' := by
  obtain ⟨A, c, rfl, hA⟩ := hv
  obtain ⟨A', c', rfl, hA'⟩ := hv'
  have HA := Lib.hid hA
  have HA' := Lib.hid hA'
  clear hA hA'
  by_cases he : l.length = m.length
  · have HE := Lib.hid he
    have heb : ((l.length : Int) != m.length) = false := by simp; omega
    have hs : sameS l m = sameS (l.drop 0) (m.drop 0) := rfl
    clear he
    go_enter Tryd.func40, Tryd.ntmps40
    go_wp2
    go_loopw [5] (fun i wr => ∃ (k : Nat), k ≤ l.length ∧ i = .int .i64 k ∧ Hid (sameS l m = sameS (l.drop k) (m.drop k)) ∧ Below w.heap.size w wr) (fun i _ => l.length - (intOf i).toNat)
    case atStart => exact ⟨0, by omega, rfl, Lib.hid hs, Below.refl _ _⟩
    case round =>
      obtain ⟨k, hk, rfl, HS, hb⟩ := hrel
      by_cases hkl : k < l.length
      · obtain ⟨x, hx⟩ : ∃ x, l[k]? = some x := ⟨_, List.getElem?_eq_getElem hkl⟩
        obtain ⟨y, hy⟩ : ∃ y, m[k]? = some y := ⟨_, List.getElem?_eq_getElem (by rw [← HE.out]; exact hkl)⟩
        obtain ⟨b, off, rfl, hB, g1, g2, g3⟩ := HA.out k x hx
        obtain ⟨b', off', rfl, hB', g1', g2', g3'⟩ := HA'.out k y hy
        have HX := Lib.hid hx
        have HY := Lib.hid hy
        have d1 := (hb.cell (p := ⟨b, _, none⟩) hB).trans g1
        have d2 := (hb.cell (p := ⟨b, _, none⟩) hB).trans g2
        have d3 := (hb.cell (p := ⟨b, _, none⟩) hB).trans g3
        have d1' := (hb.cell (p := ⟨b', _, none⟩) hB').trans g1'
        have d2' := (hb.cell (p := ⟨b', _, none⟩) hB').trans g2'
        have d3' := (hb.cell (p := ⟨b', _, none⟩) hB').trans g3'
        have hkm : k < m.length := by rw [← HE.out]; exact hkl
        clear g1 g2 g3 g1' g2' g3' hx hy
        go_wp2_with fail
        have hgu := guard56
        by_cases ht : x.tri = y.tri
        · have HT := Lib.hid ht
          have hn : ∀ w, (binOp .neq 56 (.agg #[.int .i64 x.from_, .int .i64 x.to_, .string x.text]) (.agg #[.int .i64 y.from_, .int .i64 y.to_, .string y.text])).run Tryd.prog w = .ok (.bool false) w := fun w => by
            rw [neq56, decide_eq_true]
            · rfl
            · simpa [Spl.tri] using ht
          clear ht
          go_quiet (fail)
          go_wp2
          refine ⟨⟨k + 1, by omega, by go_num, Lib.hid ?_, below_drewN hb _⟩, by simp [intOf]; omega⟩
          rw [HS.out, sameS_step l m k x y HX.out HY.out, if_pos HT.out]
        · have HT := Lib.hid ht
          have hn : ∀ w, (binOp .neq 56 (.agg #[.int .i64 x.from_, .int .i64 x.to_, .string x.text]) (.agg #[.int .i64 y.from_, .int .i64 y.to_, .string y.text])).run Tryd.prog w = .ok (.bool true) w := fun w => by
            rw [neq56, decide_eq_false]
            · rfl
            · simpa [Spl.tri] using ht
          clear ht
          go_quiet (fail)
          go_wp2
          go_ret
          refine ⟨ret_bool ?_, below_drewN hb _⟩
          rw [HS.out, sameS_step l m k x y HX.out HY.out, if_neg HT.out]
      · obtain rfl : k = l.length := by omega
        go_wp2
        go_ret
        refine ⟨ret_bool ?_, hb⟩
        rw [HS.out, List.drop_eq_nil_of_le (Nat.le_refl _), List.drop_eq_nil_of_le (Nat.le_of_eq HE.out.symm)]
        rfl
  · have HE := Lib.hid he
    have heb : ((l.length : Int) != m.length) = true := by simp; omega
    clear he
    go_enter Tryd.func40, Tryd.ntmps40
    go_wp2
    go_ret
    refine ⟨ret_bool ?_, Below.refl _ _⟩
    cases h : sameS l m with
    | false => rfl
    | true => exact absurd (sameS_length _ _ h) HE.out
end Go.Proofs.YtjadjmkbjolklaaDoor
