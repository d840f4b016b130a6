/- The contracts of lex.heads and lex.tails at bytes. -/
import Derived.Test.YtjadjmkbjolklaaDoorLexO
import Derived.Test.YtjadjmkbjolklaaDoorLexL
import Derived.Laws.BitsLemmas
namespace Go.Proofs.YtjadjmkbjolklaaDoor
open Go.RowKit

/-- How many bytes at the beginning of two lists are the same. -/
def headP : List UInt8 → List UInt8 → Nat
  | x :: r, y :: r' => if x = y then headP r r' + 1 else 0
  | _, _ => 0

theorem headP_le : ∀ l m : List UInt8, headP l m ≤ l.length ∧ headP l m ≤ m.length
  | [], m => by simp [headP]
  | x :: r, [] => by simp [headP]
  | x :: r, y :: r' => by
    have := headP_le r r'
    rw [headP]
    split
    · simp only [List.length_cons]; omega
    · simp

theorem headP_step (l m : List UInt8) (k : Nat) (x y : UInt8) (hx : l[k]? = some x) (hy : m[k]? = some y) :
    headP (l.drop k) (m.drop k) = if x = y then headP (l.drop (k + 1)) (m.drop (k + 1)) + 1 else 0 := by
  obtain ⟨h1, rfl⟩ := List.getElem?_eq_some_iff.1 hx
  obtain ⟨h2, rfl⟩ := List.getElem?_eq_some_iff.1 hy
  rw [List.drop_eq_getElem_cons h1, List.drop_eq_getElem_cons h2, headP]

theorem headP_end (l m : List UInt8) (k : Nat) (h : l.length ≤ k ∨ m.length ≤ k) : headP (l.drop k) (m.drop k) = 0 := by
  rcases h with h | h
  · rw [List.drop_eq_nil_of_le h]
    rfl
  · rw [List.drop_eq_nil_of_le h]
    cases l.drop k <;> rfl

/-- A slice value that holds bytes, in a block below B. -/
def BIn (W : World) (B : Nat) (v : Value) (l : List UInt8) : Prop :=
  ∃ A c, v = .slice A l.length c ∧ ∀ i (x : UInt8), l[i]? = some x → ∃ b off, A = some ⟨b, off, none⟩ ∧ b < B ∧ W.cell? ⟨b, off + i, none⟩ = some (.int .u8 x.toNat)

theorem same_any (a b : Int) (w : World) : Calls Tryd.prog 73 #[.int .u8 a, .int .u8 b] w fun e w' => e = .returned (.bool (a == b)) ∧ w = w' := by
  go_enter Tryd.func73, Tryd.ntmps73
  go_wp2
  go_ret
  exact ⟨rfl, rfl⟩

set_option maxRecDepth 100000 in
set_option maxHeartbeats 2000000 in
theorem heads_any (v v' : Value) (l m : List UInt8) (w : World) (hl : l.length ≤ 140737488355328) (hm : m.length ≤ 140737488355328) (hv : BIn w w.heap.size v l) (hv' : BIn w w.heap.size v' m) :
    Calls Tryd.prog 74 #[v, v', .func (.func 73) #[] #[]] w fun e w' => e = .returned (.int .i64 (headP l m)) ∧ Below w.heap.size w w' := by
  obtain ⟨A, c, rfl, hA⟩ := hv
  obtain ⟨A', c', rfl, hA'⟩ := hv'
  have HA := Lib.hid hA
  have HA' := Lib.hid hA'
  clear hA hA'
  have hs : headP l m = 0 + headP (l.drop 0) (m.drop 0) := by simp
  go_enter Tryd.func74, Tryd.ntmps74
  go_wp2
  go_loopw [15] (fun i wr => ∃ (k : Nat), k ≤ l.length ∧ k ≤ m.length ∧ i = .int .i64 k ∧ Hid (headP l m = k + headP (l.drop k) (m.drop k)) ∧ Below w.heap.size w wr) (fun i _ => l.length - (intOf i).toNat)
  case atStart => exact ⟨0, by omega, by omega, rfl, Lib.hid hs, Below.refl _ _⟩
  case round =>
    obtain ⟨k, hk, hk', rfl, HK, hb⟩ := hrel
    by_cases hlt : k < l.length ∧ k < m.length
    · obtain ⟨x, hx⟩ : ∃ x, l[k]? = some x := ⟨_, List.getElem?_eq_getElem hlt.1⟩
      obtain ⟨y, hy⟩ : ∃ y, m[k]? = some y := ⟨_, List.getElem?_eq_getElem hlt.2⟩
      obtain ⟨b, off, rfl, hB, g1⟩ := HA.out k x hx
      obtain ⟨b', off', rfl, hB', g1'⟩ := HA'.out k y hy
      have HX := Lib.hid hx
      have HY := Lib.hid hy
      have d1 := (hb.cell (p := ⟨b, _, none⟩) hB).trans g1
      have d1' := (hb.cell (p := ⟨b', _, none⟩) hB').trans g1'
      obtain ⟨hlt1, hlt2⟩ := hlt
      clear g1 g1' hx hy
      by_cases hxy : x = y
      · have HXY := Lib.hid hxy
        have C73 : ∀ w, Calls Tryd.prog 73 #[.int .u8 x.toNat, .int .u8 y.toNat] w fun e w' => e = .returned (.bool true) ∧ w' = w := fun w => (same_any _ _ w).mono (by rintro e w' ⟨rfl, rfl⟩; exact ⟨ret_bool (by rw [hxy]; simp), rfl⟩)
        clear hxy
        go_wp2_with fail
        go_quiet (exact Calls.quiet_of_same (C73 _))
        go_wp2
        refine ⟨⟨k + 1, by omega, by omega, by go_num, Lib.hid ?_, below_drewN hb _⟩, by simp [intOf]; omega⟩
        rw [HK.out, headP_step l m k x y HX.out HY.out, if_pos HXY.out]
        omega
      · have HXY := Lib.hid hxy
        have C73 : ∀ w, Calls Tryd.prog 73 #[.int .u8 x.toNat, .int .u8 y.toNat] w fun e w' => e = .returned (.bool false) ∧ w' = w := fun w => (same_any _ _ w).mono (by rintro e w' ⟨rfl, rfl⟩; exact ⟨ret_bool (by rw [beq_eq_false_iff_ne]; intro e; exact hxy (UInt8.toNat_inj.1 (by omega))), rfl⟩)
        clear hxy
        go_wp2_with fail
        go_quiet (exact Calls.quiet_of_same (C73 _))
        go_wp2
        go_ret
        refine ⟨ret_int ?_, below_drewN hb _⟩
        rw [HK.out, headP_step l m k x y HX.out HY.out, if_neg HXY.out]
        rfl
    · go_wp2
      go_ret
      refine ⟨ret_int ?_, hb⟩
      rw [HK.out, headP_end l m k (by omega)]
      omega
set_option maxRecDepth 100000 in
set_option maxHeartbeats 2000000 in
theorem tails_any (v v' : Value) (l m : List UInt8) (w : World) (hl : l.length ≤ 140737488355328) (hm : m.length ≤ 140737488355328) (hv : BIn w w.heap.size v l) (hv' : BIn w w.heap.size v' m) :
    Calls Tryd.prog 75 #[v, v', .func (.func 73) #[] #[]] w fun e w' => e = .returned (.int .i64 (headP l.reverse m.reverse)) ∧ Below w.heap.size w w' := by
  obtain ⟨A, c, rfl, hA⟩ := hv
  obtain ⟨A', c', rfl, hA'⟩ := hv'
  have HA := Lib.hid hA
  have HA' := Lib.hid hA'
  clear hA hA'
  have hs : headP l.reverse m.reverse = 0 + headP (l.reverse.drop 0) (m.reverse.drop 0) := by simp
  go_enter Tryd.func75, Tryd.ntmps75
  go_wp2
  go_loopw [15] (fun i wr => ∃ (k : Nat), k ≤ l.length ∧ k ≤ m.length ∧ i = .int .i64 k ∧ Hid (headP l.reverse m.reverse = k + headP (l.reverse.drop k) (m.reverse.drop k)) ∧ Below w.heap.size w wr) (fun i _ => l.length - (intOf i).toNat)
  case atStart => exact ⟨0, by omega, by omega, rfl, Lib.hid hs, Below.refl _ _⟩
  case round =>
    obtain ⟨k, hk, hk', rfl, HK, hb⟩ := hrel
    by_cases hlt : k < l.length ∧ k < m.length
    · obtain ⟨x, hx⟩ : ∃ x, l[l.length - 1 - k]? = some x := ⟨_, List.getElem?_eq_getElem (by omega)⟩
      obtain ⟨y, hy⟩ : ∃ y, m[m.length - 1 - k]? = some y := ⟨_, List.getElem?_eq_getElem (by omega)⟩
      obtain ⟨b, off, rfl, hB, g1⟩ := HA.out _ x hx
      obtain ⟨b', off', rfl, hB', g1'⟩ := HA'.out _ y hy
      have HX : Hid (l.reverse[k]? = some x) := Lib.hid (by rw [List.getElem?_reverse hlt.1]; exact hx)
      have HY : Hid (m.reverse[k]? = some y) := Lib.hid (by rw [List.getElem?_reverse hlt.2]; exact hy)
      have w1 : IntKind.i64.wrap ((l.length : Int) - 1) = (l.length : Int) - 1 := by rw [IntKind.wrap_i64]; omega
      have w1' : IntKind.i64.wrap ((m.length : Int) - 1) = (m.length : Int) - 1 := by rw [IntKind.wrap_i64]; omega
      obtain ⟨n, hn⟩ : ∃ n, n = l.length - 1 - k := ⟨_, rfl⟩
      obtain ⟨n', hn'⟩ : ∃ n, n = m.length - 1 - k := ⟨_, rfl⟩
      rw [← hn] at g1
      rw [← hn'] at g1'
      have w2 : IntKind.i64.wrap ((l.length : Int) - 1 - k) = n := by rw [IntKind.wrap_i64]; omega
      have w2' : IntKind.i64.wrap ((m.length : Int) - 1 - k) = n' := by rw [IntKind.wrap_i64]; omega
      have hn1 : n < l.length := by omega
      have hn1' : n' < m.length := by omega
      clear hn hn'
      have d1 := (hb.cell (p := ⟨b, _, none⟩) hB).trans g1
      have d1' := (hb.cell (p := ⟨b', _, none⟩) hB').trans g1'
      obtain ⟨hlt1, hlt2⟩ := hlt
      clear g1 g1' hx hy
      by_cases hxy : x = y
      · have HXY := Lib.hid hxy
        have C73 : ∀ w, Calls Tryd.prog 73 #[.int .u8 x.toNat, .int .u8 y.toNat] w fun e w' => e = .returned (.bool true) ∧ w' = w := fun w => (same_any _ _ w).mono (by rintro e w' ⟨rfl, rfl⟩; exact ⟨ret_bool (by rw [hxy]; simp), rfl⟩)
        clear hxy
        go_wp2_with fail
        go_quiet (exact Calls.quiet_of_same (C73 _))
        go_wp2
        refine ⟨⟨k + 1, by omega, by omega, by go_num, Lib.hid ?_, below_drewN hb _⟩, by simp [intOf]; omega⟩
        rw [HK.out, headP_step l.reverse m.reverse k x y HX.out HY.out, if_pos HXY.out]
        omega
      · have HXY := Lib.hid hxy
        have C73 : ∀ w, Calls Tryd.prog 73 #[.int .u8 x.toNat, .int .u8 y.toNat] w fun e w' => e = .returned (.bool false) ∧ w' = w := fun w => (same_any _ _ w).mono (by rintro e w' ⟨rfl, rfl⟩; exact ⟨ret_bool (by rw [beq_eq_false_iff_ne]; intro e; exact hxy (UInt8.toNat_inj.1 (by omega))), rfl⟩)
        clear hxy
        go_wp2_with fail
        go_quiet (exact Calls.quiet_of_same (C73 _))
        go_wp2
        go_ret
        refine ⟨ret_int ?_, below_drewN hb _⟩
        rw [HK.out, headP_step l.reverse m.reverse k x y HX.out HY.out, if_neg HXY.out]
        rfl
    · go_wp2
      go_ret
      refine ⟨ret_int ?_, hb⟩
      rw [HK.out, headP_end l.reverse m.reverse k (by simp; omega)]
      omega
end Go.Proofs.YtjadjmkbjolklaaDoor
