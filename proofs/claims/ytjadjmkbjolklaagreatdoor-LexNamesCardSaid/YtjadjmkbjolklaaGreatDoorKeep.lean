/- What stays: heads and tails of tokens that are the same, shifted ones; cuts; the plain answer. -/
import Derived.Test.YtjadjmkbjolklaaGreatDoorTokG
import Derived.Test.YtjadjmkbjolklaaGreatDoorRefA
import Derived.Laws.StructEq
import Derived.BigQuiet
import Derived.Deep.QuietTactic
import Derived.Deep.RegionWith
import Derived.Test.YtjadjmkbjolklaaGreatDoorRefF
import Derived.Test.YtjadjmkbjolklaaGreatDoorTokH
namespace Go.Proofs.YtjadjmkbjolklaaGreatDoor
open Go.RowKit

/-- How many elements at the beginning of two lists belong together. -/
def headG {α : Type} (p : α → α → Bool) : List α → List α → Nat
  | x :: r, y :: r' => if p x y = true then headG p r r' + 1 else 0
  | _, _ => 0

theorem headG_le {α : Type} (p : α → α → Bool) : ∀ l m : List α, headG p l m ≤ l.length ∧ headG p l m ≤ m.length
  | [], m => by simp [headG]
  | x :: r, [] => by simp [headG]
  | x :: r, y :: r' => by
    have := headG_le p r r'
    rw [headG]
    split
    · simp only [List.length_cons]; omega
    · simp

theorem headG_step {α : Type} (p : α → α → Bool) (l m : List α) (k : Nat) (x y : α) (hx : l[k]? = some x) (hy : m[k]? = some y) :
    headG p (l.drop k) (m.drop k) = if p x y = true then headG p (l.drop (k + 1)) (m.drop (k + 1)) + 1 else 0 := by
  obtain ⟨h1, rfl⟩ := List.getElem?_eq_some_iff.1 hx
  obtain ⟨h2, rfl⟩ := List.getElem?_eq_some_iff.1 hy
  rw [List.drop_eq_getElem_cons h1, List.drop_eq_getElem_cons h2, headG]

theorem headG_end {α : Type} (p : α → α → Bool) (l m : List α) (k : Nat) (h : l.length ≤ k ∨ m.length ≤ k) : headG p (l.drop k) (m.drop k) = 0 := by
  rcases h with h | h
  · rw [List.drop_eq_nil_of_le h]
    rfl
  · rw [List.drop_eq_nil_of_le h]
    cases l.drop k <;> rfl

theorem eql63 (w : World) (k a k' a' : Int) (s s' : ByteArray) :
    (binOp .eql 35 (.agg #[.int .u8 k, .string s, .int .i64 a]) (.agg #[.int .u8 k', .string s', .int .i64 a'])).run Tryz.prog w = .ok (.bool (decide ((k, s, a) = (k', s', a')))) w := by
  have hS : Tryz.prog.underlying 35 = some (.struct (Tryz.prog.fieldsOf 35)) := by kernel_rfl
  have hp : Tryz.prog.stoodInHeld 35 = false := by kernel_rfl
  have u3 := Tryz.underlying3
  have u9 := Tryz.underlying9
  rw [run_eql_struct, show (10000 : Nat) = 9999 + 1 from rfl, run_equalIn_agg w 9999 35 _ _ hS hp]
  simp only [Program.fieldsOf, Tryz.underlying35]
  go_simp
  have hst : (s.toList = s'.toList) = (s = s') := by
    have := toList_beq s s'
    rw [Bool.eq_iff_iff] at this
    simpa using this
  simp only [hst]
  by_cases h1 : k = k' <;> by_cases h2 : s = s' <;> by_cases h3 : a = a' <;> simp [h1, h2, h3]

/-- Does a token stay? -/
def stayB (x y : Piece) : Bool := decide ((x.kind, x.text, (x.at_ : Int)) = (y.kind, y.text, (y.at_ : Int)))
/-- Does a token stay, g bytes further? -/
def shiftB (g : Int) (x y : Piece) : Bool := decide ((x.kind, x.text, (x.at_ : Int) + g) = (y.kind, y.text, (y.at_ : Int)))

set_option maxRecDepth 100000 in
theorem kept1_any (x y : Piece) (w : World) :
    Calls Tryz.prog 34 #[.agg #[.int .u8 x.kind, .string x.text, .int .i64 x.at_], .agg #[.int .u8 y.kind, .string y.text, .int .i64 y.at_]] w fun e w' => e = .returned (.bool (stayB x y)) ∧ Below w.heap.size w w' := by
  have h1 := (Box3.new w x.kind x.text x.at_).below ((Below.refl _ _).alloc (Nat.le_refl _) (.cells #[.int .u8 y.kind, .string y.text, .int .i64 y.at_] 35)) (by simp)
  have h2 := Box3.new (w.alloc (.cells #[.int .u8 x.kind, .string x.text, .int .i64 x.at_] 35)) y.kind y.text y.at_
  rw [World.size_alloc] at h2
  have c0 := h1.c0
  have c1 := h1.c1
  have c2 := h1.c2
  have d0 := h2.c0
  have d1 := h2.c1
  have d2 := h2.c2
  have hq := fun w => eql63 w x.kind x.at_ y.kind y.at_ x.text y.text
  have hgu := guard63
  have hst : stayB x y = decide ((x.kind, x.text, (x.at_ : Int)) = (y.kind, y.text, (y.at_ : Int))) := rfl
  rw [← hst] at hq
  have HB := Lib.hid (((Below.refl w.heap.size w).alloc (Nat.le_refl _) (.cells #[.int .u8 x.kind, .string x.text, .int .i64 x.at_] 35)).alloc (by simp) (.cells #[.int .u8 y.kind, .string y.text, .int .i64 y.at_] 35))
  generalize stayB x y = b at hq
  clear h1 h2 hst
  go_enter Tryz.func34, Tryz.ntmps34
  go_wp2
  go_ret
  exact ⟨rfl, HB.out⟩

set_option maxRecDepth 100000 in
set_option maxHeartbeats 400000 in
theorem kept2_any (x y : Piece) (g : Int) (B : Nat) (w : World) (hx : (x.at_ : Int) ≤ 140737488355328) (hg1 : -140737488355328 ≤ g) (hg2 : g ≤ 140737488355328) (hB : B < w.heap.size) (hc : w.cell? ⟨B, 0, none⟩ = some (.int .i64 g)) :
    Calls Tryz.prog 36 #[.agg #[.int .u8 x.kind, .string x.text, .int .i64 x.at_], .agg #[.int .u8 y.kind, .string y.text, .int .i64 y.at_], .pointer (some ⟨B, 0, none⟩)] w fun e w' => e = .returned (.bool (shiftB g x y)) ∧ Below w.heap.size w w' := by
  have h1 := (Box3.new w x.kind x.text x.at_).below ((Below.refl _ _).alloc (Nat.le_refl _) (.cells #[.int .u8 y.kind, .string y.text, .int .i64 y.at_] 35)) (by simp)
  have h2 := Box3.new (w.alloc (.cells #[.int .u8 x.kind, .string x.text, .int .i64 x.at_] 35)) y.kind y.text y.at_
  rw [World.size_alloc] at h2
  have hbw := ((Below.refl w.heap.size w).alloc (Nat.le_refl _) (.cells #[.int .u8 x.kind, .string x.text, .int .i64 x.at_] 35)).alloc (by simp) (.cells #[.int .u8 y.kind, .string y.text, .int .i64 y.at_] 35)
  have hc2 := (hbw.cell (p := ⟨B, 0, none⟩) hB).trans hc
  have h1s : Box3 ((((w.alloc (.cells #[.int .u8 x.kind, .string x.text, .int .i64 x.at_] 35)).alloc (.cells #[.int .u8 y.kind, .string y.text, .int .i64 y.at_] 35))).setCell ⟨w.heap.size, 2, none⟩ (.int .i64 (x.at_ + g))) w.heap.size x.kind x.text (x.at_ + g) :=
    heap_setCell_same _ w.heap.size 2 _ 35 (.int .i64 (x.at_ + g)) h1
  have h2s : Box3 ((((w.alloc (.cells #[.int .u8 x.kind, .string x.text, .int .i64 x.at_] 35)).alloc (.cells #[.int .u8 y.kind, .string y.text, .int .i64 y.at_] 35))).setCell ⟨w.heap.size, 2, none⟩ (.int .i64 (x.at_ + g))) (w.heap.size + 1) y.kind y.text y.at_ :=
    (Below.heap_setCell _ ⟨w.heap.size, 2, none⟩ _ (w.heap.size + 1) (by simp)).trans h2
  have a2 := h1.c2
  have f2 := h1.f0 2
  have c0 := h1s.c0
  have c1 := h1s.c1
  have c2 := h1s.c2
  have d0 := h2s.c0
  have d1 := h2s.c1
  have d2 := h2s.c2
  have hq := fun w => eql63 w x.kind (x.at_ + g) y.kind y.at_ x.text y.text
  have hgu := guard63
  have hst : shiftB g x y = decide ((x.kind, x.text, (x.at_ : Int) + g) = (y.kind, y.text, (y.at_ : Int))) := rfl
  rw [← hst] at hq
  generalize shiftB g x y = b at hq
  clear h1 h2 hst h1s h2s hbw
  go_enter Tryz.func36, Tryz.ntmps36
  go_wp2
  go_ret
  exact ⟨rfl, ((Below.refl _ _).alloc (Nat.le_refl _) _).alloc (by simp) _⟩

set_option maxRecDepth 100000 in
set_option maxHeartbeats 2000000 in
theorem headsT_any (v v' : Value) (l m : List Piece) (w : World) (hl : l.length ≤ 140737488355328) (hm : m.length ≤ 140737488355328) (hv : TokIn w w.heap.size v l) (hv' : TokIn w w.heap.size v' m) :
    Calls Tryz.prog 35 #[v, v', .func (.func 34) #[] #[]] w fun e w' => e = .returned (.int .i64 (headG stayB l m)) ∧ Below w.heap.size w w' := by
  obtain ⟨A, c, rfl, hA⟩ := hv
  obtain ⟨A', c', rfl, hA'⟩ := hv'
  have HA := Lib.hid hA
  have HA' := Lib.hid hA'
  clear hA hA'
  have hs : headG stayB l m = 0 + headG stayB (l.drop 0) (m.drop 0) := by simp
  go_enter Tryz.func35, Tryz.ntmps35
  go_wp2
  go_loopw [15] (fun i wr => ∃ (k : Nat), k ≤ l.length ∧ k ≤ m.length ∧ i = .int .i64 k ∧ Hid (headG stayB l m = k + headG stayB (l.drop k) (m.drop k)) ∧ Hid (Below w.heap.size w wr)) (fun i _ => l.length - (intOf i).toNat)
  case atStart => exact ⟨0, by omega, by omega, rfl, Lib.hid hs, Lib.hid (Below.refl _ _)⟩
  case round =>
    obtain ⟨k, hk, hk', rfl, HK, HB⟩ := hrel
    by_cases hlt : k < l.length ∧ k < m.length
    · obtain ⟨x, hx⟩ : ∃ x, l[k]? = some x := ⟨_, List.getElem?_eq_getElem hlt.1⟩
      obtain ⟨y, hy⟩ : ∃ y, m[k]? = some y := ⟨_, List.getElem?_eq_getElem hlt.2⟩
      obtain ⟨b, off, rfl, hB, g1, g2, g3⟩ := HA.out k x hx
      obtain ⟨b', off', rfl, hB', g1', g2', g3'⟩ := HA'.out k y hy
      have HX := Lib.hid hx
      have HY := Lib.hid hy
      have d1 := (HB.out.cell (p := ⟨b, _, none⟩) hB).trans g1
      have d2 := (HB.out.cell (p := ⟨b, _, none⟩) hB).trans g2
      have d3 := (HB.out.cell (p := ⟨b, _, none⟩) hB).trans g3
      have d1' := (HB.out.cell (p := ⟨b', _, none⟩) hB').trans g1'
      have d2' := (HB.out.cell (p := ⟨b', _, none⟩) hB').trans g2'
      have d3' := (HB.out.cell (p := ⟨b', _, none⟩) hB').trans g3'
      obtain ⟨hlt1, hlt2⟩ := hlt
      have C76 := Lib.hid (kept1_any x y)
      clear g1 g2 g3 g1' g2' g3' hx hy
      by_cases hst : stayB x y = true
      · have HXY := Lib.hid hst
        rw [hst] at C76
        clear hst
        go_wp2_with fail
        go_region_with (go_at_call 34; refine (C76.out _).mono ?_; rintro e w2 ⟨rfl, hb2⟩)
        all_goals have HB2 := Lib.hid (HB.out.drew.trans (hb2.mono (by rw [World.size_drew]; exact HB.out.size)))
        all_goals clear hb2
        all_goals go_wp2
        all_goals refine ⟨⟨k + 1, by omega, by omega, by go_num, Lib.hid ?_, HB2⟩, by simp [intOf]; omega⟩
        all_goals rw [HK.out, headG_step stayB l m k x y HX.out HY.out, if_pos HXY.out]
        all_goals omega
      · have hst' : stayB x y = false := by simpa using hst
        have HXY := Lib.hid hst
        rw [hst'] at C76
        clear hst hst'
        go_wp2_with fail
        go_region_with (go_at_call 34; refine (C76.out _).mono ?_; rintro e w2 ⟨rfl, hb2⟩)
        all_goals have HB2 := Lib.hid (HB.out.drew.trans (hb2.mono (by rw [World.size_drew]; exact HB.out.size)))
        all_goals clear hb2
        all_goals go_wp2
        all_goals go_ret
        all_goals refine ⟨ret_int ?_, HB2.out⟩
        all_goals rw [HK.out, headG_step stayB l m k x y HX.out HY.out, if_neg HXY.out]
        all_goals rfl
    · go_wp2
      go_ret
      refine ⟨ret_int ?_, HB.out⟩
      rw [HK.out, headG_end stayB l m k (by omega)]
      omega
end Go.Proofs.YtjadjmkbjolklaaGreatDoor
namespace Go.Proofs.YtjadjmkbjolklaaGreatDoor
open Go.RowKit

set_option maxRecDepth 100000 in
set_option maxHeartbeats 2000000 in
theorem tailsT_any (v v' : Value) (l m : List Piece) (g : Int) (B : Nat) (w : World) (hl : l.length ≤ 140737488355328) (hm : m.length ≤ 140737488355328) (hat : ∀ x ∈ l, (x.at_ : Int) ≤ 140737488355328) (hg1 : -140737488355328 ≤ g) (hg2 : g ≤ 140737488355328)
    (hB0 : B < w.heap.size) (hc0 : w.cell? ⟨B, 0, none⟩ = some (.int .i64 g)) (hv : TokIn w w.heap.size v l) (hv' : TokIn w w.heap.size v' m) :
    Calls Tryz.prog 37 #[v, v', .func (.func 36) #[] #[.pointer (some ⟨B, 0, none⟩)]] w fun e w' => e = .returned (.int .i64 (headG (shiftB g) l.reverse m.reverse)) ∧ Below w.heap.size w w' := by
  obtain ⟨A, c, rfl, hA⟩ := hv
  obtain ⟨A', c', rfl, hA'⟩ := hv'
  have HA := Lib.hid hA
  have HA' := Lib.hid hA'
  have HC0 := Lib.hid hc0
  have HAT := Lib.hid hat
  clear hA hA' hc0 hat
  have hs : headG (shiftB g) l.reverse m.reverse = 0 + headG (shiftB g) (l.reverse.drop 0) (m.reverse.drop 0) := by simp
  go_enter Tryz.func37, Tryz.ntmps37
  go_wp2
  go_loopw [15] (fun i wr => ∃ (k : Nat), k ≤ l.length ∧ k ≤ m.length ∧ i = .int .i64 k ∧ Hid (headG (shiftB g) l.reverse m.reverse = k + headG (shiftB g) (l.reverse.drop k) (m.reverse.drop k)) ∧ Hid (Below w.heap.size w wr)) (fun i _ => l.length - (intOf i).toNat)
  case atStart => exact ⟨0, by omega, by omega, rfl, Lib.hid hs, Lib.hid (Below.refl _ _)⟩
  case round =>
    obtain ⟨k, hk, hk', rfl, HK, HB⟩ := hrel
    by_cases hlt : k < l.length ∧ k < m.length
    · obtain ⟨x, hx⟩ : ∃ x, l[l.length - 1 - k]? = some x := ⟨_, List.getElem?_eq_getElem (by omega)⟩
      obtain ⟨y, hy⟩ : ∃ y, m[m.length - 1 - k]? = some y := ⟨_, List.getElem?_eq_getElem (by omega)⟩
      obtain ⟨b, off, rfl, hB, g1, g2, g3⟩ := HA.out _ x hx
      obtain ⟨b', off', rfl, hB', g1', g2', g3'⟩ := HA'.out _ y hy
      have HX : Hid (l.reverse[k]? = some x) := Lib.hid (by rw [List.getElem?_reverse hlt.1]; exact hx)
      have HY : Hid (m.reverse[k]? = some y) := Lib.hid (by rw [List.getElem?_reverse hlt.2]; exact hy)
      have hxa := HAT.out x (List.mem_of_getElem? hx)
      have w1 : IntKind.i64.wrap ((l.length : Int) - 1) = (l.length : Int) - 1 := by rw [IntKind.wrap_i64]; omega
      have w1' : IntKind.i64.wrap ((m.length : Int) - 1) = (m.length : Int) - 1 := by rw [IntKind.wrap_i64]; omega
      obtain ⟨n, hn⟩ : ∃ n, n = l.length - 1 - k := ⟨_, rfl⟩
      obtain ⟨n', hn'⟩ : ∃ n, n = m.length - 1 - k := ⟨_, rfl⟩
      rw [← hn] at g1 g2 g3
      rw [← hn'] at g1' g2' g3'
      have w2 : IntKind.i64.wrap ((l.length : Int) - 1 - k) = n := by rw [IntKind.wrap_i64]; omega
      have w2' : IntKind.i64.wrap ((m.length : Int) - 1 - k) = n' := by rw [IntKind.wrap_i64]; omega
      have hn1 : n < l.length := by omega
      have hn1' : n' < m.length := by omega
      clear hn hn'
      have d1 := (HB.out.cell (p := ⟨b, _, none⟩) hB).trans g1
      have d2 := (HB.out.cell (p := ⟨b, _, none⟩) hB).trans g2
      have d3 := (HB.out.cell (p := ⟨b, _, none⟩) hB).trans g3
      have d1' := (HB.out.cell (p := ⟨b', _, none⟩) hB').trans g1'
      have d2' := (HB.out.cell (p := ⟨b', _, none⟩) hB').trans g2'
      have d3' := (HB.out.cell (p := ⟨b', _, none⟩) hB').trans g3'
      obtain ⟨hlt1, hlt2⟩ := hlt
      have C78 := Lib.hid (fun (wz : World) (hb : Below w.heap.size w wz) => kept2_any x y g B wz hxa hg1 hg2 (Nat.lt_of_lt_of_le hB0 hb.size) ((hb.cell (p := ⟨B, 0, none⟩) hB0).trans HC0.out))
      clear g1 g2 g3 g1' g2' g3' hx hy
      by_cases hst : shiftB g x y = true
      · have HXY := Lib.hid hst
        rw [hst] at C78
        clear hst
        go_wp2_with fail
        go_region_with (go_at_call 36; refine (C78.out _ HB.out.drew).mono ?_; rintro e w2 ⟨rfl, hb2⟩)
        all_goals have HB2 := Lib.hid (HB.out.drew.trans (hb2.mono (by rw [World.size_drew]; exact HB.out.size)))
        all_goals clear hb2
        all_goals go_wp2
        all_goals refine ⟨⟨k + 1, by omega, by omega, by go_num, Lib.hid ?_, HB2⟩, by simp [intOf]; omega⟩
        all_goals rw [HK.out, headG_step (shiftB g) l.reverse m.reverse k x y HX.out HY.out, if_pos HXY.out]
        all_goals omega
      · have hst' : shiftB g x y = false := by simpa using hst
        have HXY := Lib.hid hst
        rw [hst'] at C78
        clear hst hst'
        go_wp2_with fail
        go_region_with (go_at_call 36; refine (C78.out _ HB.out.drew).mono ?_; rintro e w2 ⟨rfl, hb2⟩)
        all_goals have HB2 := Lib.hid (HB.out.drew.trans (hb2.mono (by rw [World.size_drew]; exact HB.out.size)))
        all_goals clear hb2
        all_goals go_wp2
        all_goals go_ret
        all_goals refine ⟨ret_int ?_, HB2.out⟩
        all_goals rw [HK.out, headG_step (shiftB g) l.reverse m.reverse k x y HX.out HY.out, if_neg HXY.out]
        all_goals rfl
    · go_wp2
      go_ret
      refine ⟨ret_int ?_, HB.out⟩
      rw [HK.out, headG_end (shiftB g) l.reverse m.reverse k (by simp; omega)]
      omega
end Go.Proofs.YtjadjmkbjolklaaGreatDoor
namespace Go.Proofs.YtjadjmkbjolklaaGreatDoor
open Go.RowKit

theorem tokIn_cut {W : World} {B : Nat} {A : Option Addr} {c : Nat} {l : List Piece} (h : TokIn W B (.slice A l.length c) l) (hc0 : l.length ≤ c) (k : Nat) : TokIn W B (sliced A k l.length c 3) (l.drop k) := by
  obtain ⟨A', c', e, hA⟩ := h
  injection e with e1 e2 e3
  subst e1
  subst e3
  refine ⟨if c = k then A else A.map (·.add (k * 3)), c - k, by simp [sliced], fun i x hx => ?_⟩
  rw [List.getElem?_drop] at hx
  obtain ⟨b, off, rfl, hb, g0, g1, g2⟩ := hA _ x hx
  by_cases hc : c = k
  · have := (List.getElem?_eq_some_iff.1 hx).1
    omega
  · refine ⟨b, off + k * 3, by simp [hc, Addr.add], hb, ?_, ?_, ?_⟩
    · rw [← g0]; congr 2; omega
    · rw [← g1]; congr 2; omega
    · rw [← g2]; congr 2; omega

set_option maxRecDepth 100000 in
theorem slice23 {A : Option Addr} {n c k : Nat} (w : World) (hk : k ≤ n) : (Instr.slice 22 (.slice A n c) (some (.int .i64 k)) none none).run Tryz.prog w = .ok (sliced A k n c 3) w := by
  have h := Tryz.underlying22
  rw [run_slice_l w 22 A n c (by rw [h]; rfl) .i64 k (by omega) (by omega)]
  have h2 : (sizeOf (Tryz.prog.elem 22)).run Tryz.prog w = .ok 3 w := by go_simp
  rw [h2]
  simp [Result.andThen]

/-- What lex.Kept answers: the tokens kept at the beginning, those kept at the end, and the error. -/
def keptRes (s : ByteArray) (x : Spl) : Int × Int × Int :=
  if (applyRes s [x]).2 ≠ 0 then (0, 0, (applyRes s [x]).2)
  else if (lexTokens s).2.2 ≠ 0 then (0, 0, (lexTokens s).2.2)
  else if (lexTokens ⟨(applyRes s [x]).1.toArray⟩).2.2 ≠ 0 then (0, 0, (lexTokens ⟨(applyRes s [x]).1.toArray⟩).2.2)
  else ((headG stayB (lexTokens s).1 (lexTokens ⟨(applyRes s [x]).1.toArray⟩).1 : Nat), (headG (shiftB ((applyRes s [x]).1.length - s.size)) ((lexTokens s).1.drop (headG stayB (lexTokens s).1 (lexTokens ⟨(applyRes s [x]).1.toArray⟩).1)).reverse ((lexTokens ⟨(applyRes s [x]).1.toArray⟩).1.drop (headG stayB (lexTokens s).1 (lexTokens ⟨(applyRes s [x]).1.toArray⟩).1)).reverse : Nat), 0)

theorem own_cap {W : World} {B : Nat} {v : Value} {l : List Piece} (h : OwnToks W B v l) : ∃ A c, v = .slice A l.length c ∧ l.length ≤ c := by
  rcases h.2 with ⟨h1, h2⟩ | ⟨g, cap, cur, h1, _, _, h2, _⟩
  · exact ⟨none, 0, by rw [h1, h2], by omega⟩
  · exact ⟨_, cap, h1, h2⟩
end Go.Proofs.YtjadjmkbjolklaaGreatDoor
