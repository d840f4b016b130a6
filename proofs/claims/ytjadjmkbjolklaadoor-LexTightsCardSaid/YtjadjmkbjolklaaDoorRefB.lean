/- The contracts of the reference's TextError and spotOf. -/
import Derived.Test.YtjadjmkbjolklaaDoorLow
import Derived.Laws.StructEq
import Derived.BigQuiet
import Derived.Deep.QuietTactic
import Derived.Deep.RegionWith
namespace Go.Proofs.YtjadjmkbjolklaaDoor
open Go.RowKit

/-- May a byte stand in a text? -/
def isByteP (c : Int) : Bool := decide (c = 10) || (decide (32 ≤ c) && decide (c ≤ 126))

theorem cls_zero (b : Int) : cls b = 0 ↔ isByteP b = false := by
  unfold isByteP cls
  simp only [Bool.or_eq_false_iff, Bool.and_eq_false_iff, decide_eq_false_iff_not]
  repeat' split
  all_goals omega

theorem inCls7 (c : UInt8) : inCls [1, 2, 3, 4, 5, 6, 7] c = isByteP c.toNat := by
  have h := cls_bd c.toNat
  have h0 := cls_zero c.toNat
  unfold inCls
  rw [Bool.eq_iff_iff]
  simp only [List.any_cons, List.any_nil, Bool.or_false, Bool.or_eq_true, beq_iff_eq]
  cases hb : isByteP c.toNat with
  | false => have := h0.2 hb; simp; omega
  | true =>
    have : cls c.toNat ≠ 0 := fun e => by rw [h0.1 e] at hb; cases hb
    simp
    omega

theorem isByte_any (c : Int) (w : World) : Calls Tryd.prog 88 #[.int .u8 c] w fun e w' => e = .returned (.bool (isByteP c)) ∧ w = w' := by
  by_cases h1 : c = 10
  · have h : (c == 10) = true := by simpa using h1
    have hr : isByteP c = true := by unfold isByteP; simp [h1]
    have HR := Lib.hid hr
    clear hr h1
    go_enter Tryd.func88, Tryd.ntmps88
    go_wp2
    go_ret
    rw [HR.out]
    exact ⟨rfl, rfl⟩
  · have h : (c == 10) = false := by simpa using h1
    by_cases h2 : 32 ≤ c
    · have hr : isByteP c = decide (c ≤ 126) := by unfold isByteP; simp [h1, h2]
      have HR := Lib.hid hr
      clear hr h1
      go_enter Tryd.func88, Tryd.ntmps88
      go_wp2
      go_ret
      rw [HR.out]
      exact ⟨rfl, rfl⟩
    · have hr : isByteP c = false := by unfold isByteP; simp [h1, h2]
      have HR := Lib.hid hr
      clear hr h1
      go_enter Tryd.func88, Tryd.ntmps88
      go_wp2
      go_ret
      rw [HR.out]
      exact ⟨rfl, rfl⟩

set_option maxHeartbeats 400000 in
theorem refTextError_any (s : ByteArray) (w : World) (hs : s.size ≤ 140737488355328) :
    Calls Tryd.prog 51 #[.string s] w fun e w' => e = .returned (.tuple #[.int .i64 (textErr s).1, .int .i64 (textErr s).2]) ∧ w = w' := by
  by_cases h25 : 2500 < s.size
  · have HR : Hid (textErr s = (0, 5)) := Lib.hid (by unfold textErr; rw [if_pos h25])
    go_enter Tryd.func51, Tryd.ntmps51
    go_wp2
    go_ret2
    rw [HR.out]
    exact ⟨rfl, rfl⟩
  · have HT : Hid (textErr s = if txt s < s.size then ((txt s : Int), 2) else (0, 0)) := Lib.hid (by unfold textErr; rw [if_neg h25])
    go_enter Tryd.func51, Tryd.ntmps51
    go_wp2
    go_loop [4] (fun i => ∃ k : Nat, k ≤ s.size ∧ i = .int .i64 k ∧ Hid (txt s = pastP (inCls [1, 2, 3, 4, 5, 6, 7]) s k)) (fun i => s.size - (intOf i).toNat)
    case atStart => exact ⟨0, by omega, rfl, Lib.hid rfl⟩
    case round =>
      obtain ⟨k, hk, rfl, HK⟩ := hrel
      by_cases hlt : k < s.size
      · by_cases hin : isByteP s[k].toNat = true
        · have HI := Lib.hid hin
          have hb : isByteP s[k].toNat = true := hin
          clear hin
          go_wp2_with (go_at_call 88; refine (isByte_any _ _).mono ?_; rintro e w' ⟨rfl, rfl⟩)
          go_round
          case rel => exact ⟨k + 1, by omega, by go_num, Lib.hid (by rw [HK.out, pastP_yes _ _ _ hlt (by rw [inCls7]; exact HI.out)])⟩
          case measure => simp [intOf]; omega
        · have hb : isByteP s[k].toNat = false := by simpa using hin
          have HI := Lib.hid hb
          clear hin
          go_wp2_with (go_at_call 88; refine (isByte_any _ _).mono ?_; rintro e w' ⟨rfl, rfl⟩)
          go_ret2
          have ht : txt s = k := by rw [HK.out, pastP_no _ _ _ hlt (by rw [inCls7]; exact HI.out)]
          rw [HT.out, ht, if_pos hlt]
          exact ⟨rfl, rfl⟩
      · go_wp2
        go_ret2
        have ht : txt s = s.size := by rw [HK.out, pastP_end _ _ _ (by omega)]; omega
        rw [HT.out, ht, if_neg (by omega)]
        exact ⟨rfl, rfl⟩

theorem Box2.set1 {W : World} {B : Nat} {x y : Int} (h : Box2 W B x y) (y' : Int) : Box2 (W.setCell ⟨B, 1, none⟩ (.int .i64 y')) B x y' := heap_setCell_same W B 1 _ 32 (.int .i64 y') h
theorem Box2.set2 {W : World} {B B' i : Nat} {x y : Int} (h : Box2 W B x y) (hne : B ≠ B') (v : Value) : Box2 (W.setCell ⟨B', i, none⟩ v) B x y := (Below.heap_setCell W ⟨B', i, none⟩ v B hne).trans h

theorem results_spotOf {tmps : Array Value} {W : World} {B : Nat} {x y : Int} (h : Box2 W B x y) (t4 : tmps[4]?.getD undef = .pointer (some ⟨B, 0, none⟩)) :
    (results Tryd.f56 tmps).run Tryd.prog W = .ok (.agg #[.int .i64 x, .int .i64 y]) W := by
  have c0 := h.c0
  have c1 := h.c1
  simp [results, Tryd.results56, t4, go_sem, loadVar, c0, c1]

set_option maxRecDepth 100000 in
set_option maxHeartbeats 1000000 in
theorem spotOf_any (s : ByteArray) (k : Nat) (w : World) (hs : s.size ≤ 140737488355328) (hk : k ≤ s.size) :
    Calls Tryd.prog 56 #[.string s, .int .i64 k] w fun e w' => e = .returned (.agg #[.int .i64 (lineP s k), .int .i64 (colP s k)]) ∧ Below w.heap.size w w' := by
  have hn1 := (Box2.new w 0 0).below ((Below.refl _ _).alloc (Nat.le_refl _) (.cells #[.int .i64 1, .int .i64 1] 32)) (by simp)
  have hn2 := Box2.new (w.alloc (.cells #[.int .i64 0, .int .i64 0] 32)) 1 1
  have hbw := ((Below.refl w.heap.size w).alloc (Nat.le_refl _) (.cells #[.int .i64 0, .int .i64 0] 32)).alloc (by simp) (.cells #[.int .i64 1, .int .i64 1] 32)
  have hz : (w.alloc (.cells #[.int .i64 0, .int .i64 0] 32)).heap.size = w.heap.size + 1 := by simp
  rw [hz] at hn2
  go_enter Tryd.func56, Tryd.ntmps56
  go_wp2
  obtain ⟨W1, hW1⟩ : ∃ W1, W1 = (w.alloc (.cells #[.int .i64 0, .int .i64 0] 32)).alloc (.cells #[.int .i64 1, .int .i64 1] 32) := ⟨_, rfl⟩
  rw [← hW1] at hn1 hn2 hbw ⊢
  clear hW1 hz
  go_loopw [6] (fun i wr => ∃ j : Nat, j ≤ k ∧ i = .int .i64 j ∧ Box2 wr (w.heap.size + 1) (lineP s j) (colP s j) ∧ Box2 wr w.heap.size 0 0 ∧ Below w.heap.size w wr) (fun i _ => k - (intOf i).toNat)
  case atStart => exact ⟨0, by omega, rfl, hn2, hn1, hbw⟩
  case round =>
    obtain ⟨j, hj, rfl, hx, hy, hb⟩ := hrel
    have q1 := lineP_le s j
    have q2 := colP_le s j
    have c0 := hx.c0
    have c1 := hx.c1
    have f0 := hx.f0
    by_cases hlt : j < k
    · have hx1 := hx.set1 ((colP s j : Int) + 1)
      have d0 := hx1.c0
      have d1 := hx1.c1
      have d1' := hx1.c1'
      have hg := lf_get s j (by omega)
      by_cases hl : lf s j = true
      · have hlb : ((s[j].toNat : Int) == 10) = true := by rw [hg] at hl; have := beq_iff_eq.1 hl; rw [this]; rfl
        have HL := Lib.hid hl
        clear hl hg
        go_wp2_with fail
        have el : (lineP s (j + 1) : Int) = (lineP s j : Int) + 1 := by rw [lineP, if_pos HL.out]; omega
        have ec : (colP s (j + 1) : Int) = 1 := by rw [colP, if_pos HL.out]; rfl
        refine ⟨⟨j + 1, by omega, by go_num, ?_, ((hy.set2 (by omega) _).set2 (by omega) _).set2 (by omega) _, ?_⟩, by simp [intOf]; omega⟩
        · rw [el, ec]
          exact hx1.set _ _
        · exact ((hb.setCell (p := ⟨w.heap.size + 1, 1, none⟩) (by simp) _).setCell (p := ⟨w.heap.size + 1, 0, none⟩) (by simp) _).setCell (p := ⟨w.heap.size + 1, 1, none⟩) (by simp) _
      · have hlb : ((s[j].toNat : Int) == 10) = false := by
          rw [hg] at hl
          have h2 : s[j] ≠ 10 := fun e => hl (by rw [e]; rfl)
          have h3 : s[j].toNat ≠ 10 := fun e => h2 (UInt8.toNat_inj.1 e)
          simp
          omega
        have HL := Lib.hid hl
        clear hl hg
        go_wp2_with fail
        have el : (lineP s (j + 1) : Int) = (lineP s j : Int) := by rw [lineP, if_neg HL.out]
        have ec : (colP s (j + 1) : Int) = (colP s j : Int) + 1 := by rw [colP, if_neg HL.out]; omega
        refine ⟨⟨j + 1, by omega, by go_num, ?_, hy.set2 (by omega) _, hb.setCell (p := ⟨w.heap.size + 1, 1, none⟩) (by simp) _⟩, by simp [intOf]; omega⟩
        rw [el, ec]
        exact hx1
    · obtain rfl : j = k := by omega
      have e0 := hy.c0
      have e1 := hy.c1
      have e1' := hy.c1'
      have g0 := hy.f0
      go_wp2_with fail
      refine bodyPost_ret (results_spotOf (hy.set _ _) rfl) rfl ?_
      exact ⟨rfl, (hb.setCell (p := ⟨w.heap.size, 0, none⟩) (Nat.le_refl _) _).setCell (p := ⟨w.heap.size, 1, none⟩) (Nat.le_refl _) _⟩
end Go.Proofs.YtjadjmkbjolklaaDoor
