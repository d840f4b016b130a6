/- The contracts of the reference's SplicesError, check. -/
import Derived.Test.YtjadjmkbjolklaaDoorSplA
import Derived.Test.YtjadjmkbjolklaaDoorRefB
import Derived.BigQuiet
import Derived.Deep.QuietTactic
namespace Go.Proofs.YtjadjmkbjolklaaDoor
open Go.RowKit

/-- What the reference's SplicesError returns. -/
def splErrR (s : ByteArray) (l : List Spl) : Int := if splErr s l ≠ 0 then splErr s l else (planRes s l).2

theorem idx9c (s : ByteArray) (k : Nat) (h : k < s.size) (w : World) : (Instr.index 9 (.string s) (.int .i64 k)).run Tryd.prog w = .ok (.int .u8 (s[k]!).toNat) w := by
  rw [getBang s k h]
  simp [Instr.index, go_sem, h]

theorem splErrR_over {s : ByteArray} {l : List Spl} (h : 40 < l.length) : splErrR s l = 5 := by
  have e : splErr s l = 5 := by unfold splErr; rw [if_pos h]
  unfold splErrR
  rw [e]
  rfl
theorem splErrR_wrong {s : ByteArray} {l : List Spl} (h : l.length ≤ 40) (h1 : splRight s.size 0 l = false) : splErrR s l = 3 := by
  have e : splErr s l = 3 := by unfold splErr; rw [if_neg (by omega), if_pos h1]
  unfold splErrR
  rw [e]
  rfl
theorem splErrR_bad {s : ByteArray} {l : List Spl} (h : l.length ≤ 40) (h1 : splRight s.size 0 l = true) (h2 : splBad l = true) : splErrR s l = 2 := by
  have e : splErr s l = 2 := by unfold splErr; rw [if_neg (by omega), if_neg (by simp [h1]), if_pos h2]
  unfold splErrR
  rw [e]
  rfl
theorem splErrR_plan {s : ByteArray} {l : List Spl} (h : l.length ≤ 40) (h1 : splRight s.size 0 l = true) (h2 : splBad l = false) : splErrR s l = if 2500 < (s.size : Int) + grown s 0 l then 5 else 0 := by
  have e : splErr s l = 0 := by unfold splErr; rw [if_neg (by omega), if_neg (by simp [h1]), if_neg (by simp [h2])]
  unfold splErrR
  rw [e, if_neg (by simp)]
  unfold planRes
  split <;> rfl

theorem grown_in (s : ByteArray) (g : Int) (l : List Spl) (k : Nat) (x : Spl) (h : l[k]? = some x) (h1 : 0 ≤ x.from_) (h2 : x.from_ ≤ x.to_) (h3 : x.to_ ≤ s.size) :
    grown s g (l.drop k) = grown s (g + ((x.text.size : Int) - (x.to_ - x.from_))) (l.drop (k + 1)) := by
  rw [grown_step s g l k x h]
  congr 1
  simp only [ByteArray.size_extract]
  omega

set_option maxRecDepth 100000 in
set_option maxHeartbeats 2000000 in
theorem refSplicesError_any (s : ByteArray) (v : Value) (l : List Spl) (w : World) (hs : s.size ≤ 140737488355328) (hl : l.length ≤ 140737488355328) (ht : ∀ x ∈ l, x.text.size ≤ 140737488355328) (hv : SplIn w w.heap.size v l) :
    Calls Tryd.prog 102 #[.string s, v] w fun e w' => e = .returned (.int .i64 (splErrR s l)) ∧ Below w.heap.size w w' := by
  obtain ⟨A, c, rfl, hA⟩ := hv
  have HA := Lib.hid hA
  have HT := Lib.hid ht
  clear ht hA
  by_cases h40 : 40 < l.length
  · have HR := Lib.hid (splErrR_over (s := s) h40)
    go_enter Tryd.func102, Tryd.ntmps102
    go_wp2
    go_ret
    rw [HR.out]
    exact ⟨rfl, Below.refl _ _⟩
  · have h40' : l.length ≤ 40 := by omega
    go_enter Tryd.func102, Tryd.ntmps102
    go_wp2
    go_loopw [5, 6] (fun la i wr => ∃ (k : Nat) (last : Int), k ≤ l.length ∧ i = .int .i64 k ∧ la = .int .i64 last ∧ Hid (splRight s.size 0 l = splRight s.size last (l.drop k)) ∧ Below w.heap.size w wr) (fun _ i _ => l.length - (intOf i).toNat)
    case atStart => exact ⟨0, 0, by omega, rfl, rfl, Lib.hid rfl, Below.refl _ _⟩
    case round =>
      obtain ⟨k, last, hk, rfl, rfl, HK, hb⟩ := hrel
      by_cases hlt : k < l.length
      · obtain ⟨x, hx⟩ : ∃ x, l[k]? = some x := ⟨_, List.getElem?_eq_getElem hlt⟩
        obtain ⟨b, off, rfl, hB, q1, q2, q3⟩ := HA.out k x hx
        have d1 := (hb.cell (p := ⟨b, _, none⟩) hB).trans q1
        have d2 := (hb.cell (p := ⟨b, _, none⟩) hB).trans q2
        have HX := Lib.hid hx
        clear q1 q2 q3 hx
        by_cases hbad : x.from_ < last ∨ x.to_ < x.from_ ∨ (s.size : Int) < x.to_
        · have HR := Lib.hid (splErrR_wrong (s := s) h40' (by rw [HK.out, splRight_step s.size last l k x HX.out, if_pos hbad]))
          by_cases c1 : x.from_ < last
          · clear hbad
            have t1 : decide (x.from_ < last) = true := by simpa using c1
            go_wp2_with fail
            go_quiet (fail)
            go_wp2
            go_ret
            rw [HR.out]
            exact ⟨rfl, below_drewN hb _⟩
          · by_cases c2 : x.to_ < x.from_
            · clear hbad
              have t1 : decide (x.from_ < last) = false := by simpa using c1
              have t2 : decide (x.to_ < x.from_) = true := by simpa using c2
              clear c1 c2
              go_wp2_with fail
              go_quiet (fail)
              go_wp2
              go_ret
              rw [HR.out]
              exact ⟨rfl, below_drewN hb _⟩
            · have c3 : (s.size : Int) < x.to_ := by omega
              clear hbad
              have t1 : decide (x.from_ < last) = false := by simpa using c1
              have t2 : decide (x.to_ < x.from_) = false := by simpa using c2
              have t3 : decide ((s.size : Int) < x.to_) = true := by simpa using c3
              clear c1 c2 c3
              go_wp2_with fail
              go_quiet (fail)
              go_wp2
              go_ret
              rw [HR.out]
              exact ⟨rfl, below_drewN hb _⟩
        · have c1 : ¬ x.from_ < last := fun h => hbad (.inl h)
          have c2 : ¬ x.to_ < x.from_ := fun h => hbad (.inr (.inl h))
          have c3 : ¬ (s.size : Int) < x.to_ := fun h => hbad (.inr (.inr h))
          have HN := Lib.hid (show splRight s.size 0 l = splRight s.size x.to_ (l.drop (k + 1)) by rw [HK.out, splRight_step s.size last l k x HX.out, if_neg hbad])
          clear hbad
          have t1 : decide (x.from_ < last) = false := by simpa using c1
          have t2 : decide (x.to_ < x.from_) = false := by simpa using c2
          have t3 : decide ((s.size : Int) < x.to_) = false := by simpa using c3
          clear c1 c2 c3
          go_wp2_with fail
          go_quiet (fail)
          go_wp2
          go_roundw
          case rel => exact ⟨k + 1, x.to_, by omega, by go_num, rfl, HN, below_drewN hb _⟩
          case measure => simp [intOf]; omega
      · have hri : splRight s.size 0 l = true := by rw [HK.out, List.drop_eq_nil_of_le (by omega)]; rfl
        have HRI := Lib.hid hri
        have HI := Lib.hid (splRight_in s.size l 0 (Int.le_refl 0) hri HT.out)
        have hb1 := hb
        clear hri HK hb
        go_wp2_with fail
        clear hlt hk
        go_loopw [7, 8] (fun mo i wr => ∃ (k : Nat) (g : Int), k ≤ l.length ∧ i = .int .i64 k ∧ mo = .int .i64 g ∧ Hid (splBad l = splBad (l.drop k) ∧ grown s 0 l = grown s g (l.drop k)) ∧ -((k : Int) * 140737488355328) ≤ g ∧ g ≤ (k : Int) * 140737488355328 ∧ Below w.heap.size w wr) (fun _ i _ => l.length - (intOf i).toNat)
        case atStart => exact ⟨0, 0, by omega, rfl, rfl, Lib.hid ⟨rfl, rfl⟩, by omega, by omega, hb1⟩
        case round =>
          clear hb1
          obtain ⟨k, g, hk, rfl, rfl, HK, hg1, hg2, hb⟩ := hrel
          by_cases hlt : k < l.length
          · obtain ⟨x, hx⟩ : ∃ x, l[k]? = some x := ⟨_, List.getElem?_eq_getElem hlt⟩
            obtain ⟨b, off, rfl, hB, q1, q2, q3⟩ := HA.out k x hx
            have hx4 : x.text.size ≤ 140737488355328 := HT.out x (List.mem_of_getElem? hx)
            obtain ⟨x1, x2, x3, _⟩ := HI.out x (List.mem_of_getElem? hx)
            have HX := Lib.hid hx
            have Q1 := Lib.hid q1
            have Q2 := Lib.hid q2
            have Q3 := Lib.hid q3
            clear q1 q2 q3 hx
            go_wp2_with fail
            go_loopw [9] (fun i wr2 => ∃ j : Nat, j ≤ x.text.size ∧ i = .int .i64 j ∧ Hid (txt x.text = pastP (inCls [1, 2, 3, 4, 5, 6, 7]) x.text j) ∧ Below w.heap.size w wr2) (fun i _ => x.text.size - (intOf i).toNat)
            case atStart => exact ⟨0, by omega, rfl, Lib.hid rfl, hb⟩
            case round =>
              clear hb
              obtain ⟨j, hj, rfl, HJ, hb⟩ := hrel
              have d1 := (hb.cell (p := ⟨b, _, none⟩) hB).trans Q1.out
              have d2 := (hb.cell (p := ⟨b, _, none⟩) hB).trans Q2.out
              have d3 := (hb.cell (p := ⟨b, _, none⟩) hB).trans Q3.out
              by_cases hj2 : j < x.text.size
              · by_cases hin : isByteP x.text[j].toNat = true
                · have C88 := Lib.hid (show ∀ w, Calls Tryd.prog 88 #[.int .u8 x.text[j].toNat] w fun e w' => e = .returned (.bool true) ∧ w = w' from fun w => hin ▸ isByte_any _ w)
                  have HI2 := Lib.hid (show inCls [1, 2, 3, 4, 5, 6, 7] x.text[j] = true by rw [inCls7]; exact hin)
                  clear hin
                  go_wp2_with (go_at_call 88; refine (C88.out _).mono ?_; rintro e w' ⟨rfl, rfl⟩)
                  go_roundw
                  case rel => exact ⟨j + 1, by omega, by go_num, Lib.hid (by rw [HJ.out, pastP_yes _ _ _ hj2 HI2.out]), hb⟩
                  case measure => simp [intOf]; omega
                · have hin' : isByteP x.text[j].toNat = false := by simpa using hin
                  have C88 := Lib.hid (show ∀ w, Calls Tryd.prog 88 #[.int .u8 x.text[j].toNat] w fun e w' => e = .returned (.bool false) ∧ w = w' from fun w => hin' ▸ isByte_any _ w)
                  have HR := Lib.hid (splErrR_bad (s := s) h40' HRI.out (by
                    rw [HK.out.1, splBad_step l k x HX.out, if_pos]
                    rw [HJ.out, pastP_no _ _ _ hj2 (by rw [inCls7]; exact hin')]
                    exact hj2))
                  clear hin hin'
                  go_wp2_with (go_at_call 88; refine (C88.out _).mono ?_; rintro e w' ⟨rfl, rfl⟩)
                  go_ret
                  rw [HR.out]
                  exact ⟨rfl, hb⟩
              · have HB := Lib.hid (show splBad l = splBad (l.drop (k + 1)) by
                  rw [HK.out.1, splBad_step l k x HX.out, if_neg]
                  rw [HJ.out, pastP_end _ _ _ (by omega)]
                  omega)
                have HG := Lib.hid (show grown s 0 l = grown s (g + ((x.text.size : Int) - (x.to_ - x.from_))) (l.drop (k + 1)) by rw [HK.out.2, grown_in s g l k x HX.out x1 x2 x3])
                have w1 : IntKind.i64.wrap (x.to_ - x.from_) = x.to_ - x.from_ := by rw [IntKind.wrap_i64]; omega
                have w2 : IntKind.i64.wrap ((x.text.size : Int) - (x.to_ - x.from_)) = (x.text.size : Int) - (x.to_ - x.from_) := by rw [IntKind.wrap_i64]; omega
                have w3 : IntKind.i64.wrap (g + ((x.text.size : Int) - (x.to_ - x.from_))) = g + ((x.text.size : Int) - (x.to_ - x.from_)) := by rw [IntKind.wrap_i64]; omega
                go_wp2_with fail
                go_quiet (fail)
                go_wp2
                go_roundw
                case rel => exact ⟨k + 1, _, by omega, by go_num, rfl, Lib.hid ⟨HB.out, HG.out⟩, by omega, by omega, below_drewN hb _⟩
                case measure => simp [intOf]; omega
          · have hkl : k = l.length := by omega
            have HB := Lib.hid (show splBad l = false ∧ grown s 0 l = g by rw [HK.out.1, HK.out.2, List.drop_eq_nil_of_le (by omega)]; exact ⟨rfl, rfl⟩)
            have HR := Lib.hid (splErrR_plan (s := s) h40' HRI.out HB.out.1)
            clear hkl
            by_cases h25 : 2500 < (s.size : Int) + g
            · go_wp2
              go_ret
              rw [HR.out, HB.out.2, if_pos h25]
              exact ⟨rfl, hb⟩
            · go_wp2
              go_ret
              rw [HR.out, HB.out.2, if_neg (by omega)]
              exact ⟨rfl, hb⟩

/-- What the reference's check returns. -/
theorem planAny_err (s : ByteArray) (l : List Spl) : (planAnyRes s l).2 = if (textErr s).2 ≠ 0 then (textErr s).2 else splErrR s l := by
  unfold planAnyRes splErrR
  split
  · rfl
  · split
    · rfl
    · rfl

theorem refCheck_any (s : ByteArray) (v : Value) (l : List Spl) (w : World) (hs : s.size ≤ 140737488355328) (hl : l.length ≤ 140737488355328) (ht : ∀ x ∈ l, x.text.size ≤ 140737488355328) (hv : SplIn w w.heap.size v l) :
    Calls Tryd.prog 70 #[.string s, v] w fun e w' => e = .returned (.int .i64 (planAnyRes s l).2) ∧ Below w.heap.size w w' := by
  have HV := Lib.hid hv
  have HT := Lib.hid ht
  clear ht hv
  by_cases he : (textErr s).2 = 0
  · have HR := Lib.hid (show (planAnyRes s l).2 = splErrR s l by rw [planAny_err, if_neg (by rw [he]; simp)])
    have heb : ((textErr s).2 != 0) = false := by simpa using he
    clear he
    go_enter Tryd.func70, Tryd.ntmps70
    go_wp2_with (first
      | (go_at_call 51; refine (refTextError_any s _ hs).mono ?_; rintro e w1 ⟨rfl, rfl⟩)
      | (go_at_call 102; refine (refSplicesError_any s _ l _ hs hl HT.out HV.out).mono ?_; rintro e w2 ⟨rfl, hb2⟩))
    go_ret
    rw [HR.out]
    exact ⟨rfl, hb2⟩
  · have HR := Lib.hid (show (planAnyRes s l).2 = (textErr s).2 by rw [planAny_err, if_pos he])
    have heb : ((textErr s).2 != 0) = true := by simpa using he
    clear he
    go_enter Tryd.func70, Tryd.ntmps70
    go_wp2_with (go_at_call 51; refine (refTextError_any s _ hs).mono ?_; rintro e w1 ⟨rfl, rfl⟩)
    go_ret
    rw [HR.out]
    exact ⟨rfl, Below.refl _ _⟩
end Go.Proofs.YtjadjmkbjolklaaDoor
