/- The contracts of lex.numberError, kindOf. -/
import Derived.Test.YtjadjmkbjolklaaDoorLexD
import Derived.Test.YtjadjmkbjolklaaDoorKw
import Derived.WalkSmall
namespace Go.Proofs.YtjadjmkbjolklaaDoor
open Go.RowKit

/-- The variables strconv.ErrRange and strconv.ErrSyntax hold errors. -/
def NumVars (w : World) : Prop := (∃ tp p, w.var? Tryd.prog "strconv.ErrRange" = some #[.iface tp p]) ∧ (∃ tp p, w.var? Tryd.prog "strconv.ErrSyntax" = some #[.iface tp p])

theorem gRange : Tryd.prog.globalNamed "strconv.ErrRange" = some 2 := by kernel_rfl
theorem gSyntax : Tryd.prog.globalNamed "strconv.ErrSyntax" = some 1 := by kernel_rfl

theorem NumVars.below {w w' : World} {B : Nat} (h : NumVars w) (hb : Below B w w') (h1 : 2 < B) (h2 : 1 < B) : NumVars w' := by
  obtain ⟨⟨t, p, e⟩, ⟨t', p', e'⟩⟩ := h
  exact ⟨⟨t, p, var?_below hb gRange h1 e⟩, ⟨t', p', var?_below hb gSyntax h2 e'⟩⟩

theorem NumVars.lt {w : World} (h : NumVars w) : 2 < w.heap.size ∧ 1 < w.heap.size := by
  obtain ⟨⟨t, p, e⟩, ⟨t', p', e'⟩⟩ := h
  unfold World.var? at e e'
  rw [gRange] at e
  rw [gSyntax] at e'
  constructor
  · rcases Nat.lt_or_ge 2 w.heap.size with h | h
    · exact h
    · simp [Array.getElem?_eq_none h] at e
  · rcases Nat.lt_or_ge 1 w.heap.size with h | h
    · exact h
    · simp [Array.getElem?_eq_none h] at e'

theorem NumVars.keep {w w' : World} (h : NumVars w) (hb : Below w.heap.size w w') : NumVars w' := h.below hb h.lt.1 h.lt.2

theorem NumVars.alloc {w : World} (h : NumVars w) (o : Obj) : NumVars (w.alloc o) := h.keep ((Below.refl _ _).alloc (Nat.le_refl _) _)

/-- What strconv.Atoi says of a text: a number that is not too great. -/
def numOk (s : ByteArray) : Bool := match Lib.atoiAll s.data.toList with
    | .ok v => decide (v ≤ 1000000)
    | _ => false

/-- The error of letters and digits that begin with a digit. -/
def numErr (s : ByteArray) : Int :=
  if pastP (inCls [4]) s 0 < s.size then 4
  else if (s[0]!).toNat = 48 ∧ 1 < s.size then 4
  else if numOk s = true then 0 else 3

theorem atoi_any (s : ByteArray) (w : World) (hs : s.size ≤ 140737488355328) (hv : NumVars w) :
    Calls Tryd.prog 123 #[.string s] w fun e w' => ∃ (v : Int) (ev : Value), e = .returned (.tuple #[.int .i64 v, ev]) ∧ Below w.heap.size w w' ∧
      Hid ((ev = .nilIface ∧ numOk s = decide (v ≤ 1000000)) ∨ ((∃ t p, ev = .iface t p) ∧ numOk s = false)) := by
  obtain ⟨⟨t, p, e⟩, ⟨t', p', e'⟩⟩ := hv
  cases h : Lib.atoiAll s.data.toList with
  | ok v =>
    refine (Tryd.strconv_Atoi_ok s (by omega) v h w).mono ?_
    rintro e w' ⟨rfl, hw⟩
    refine ⟨v, .nilIface, rfl, ?_, Lib.hid (.inl ⟨rfl, by simp [numOk, h]⟩)⟩
    rcases hw with rfl | ⟨t, rfl⟩
    · exact Below.refl _ _
    · exact Lib.bytesWorld_below _ _ _
  | range =>
    refine (Tryd.strconv_Atoi_range_var s (by omega) h _ _ w e).mono ?_
    rintro e w' ⟨N, rfl, _, _, hb⟩
    exact ⟨_, _, rfl, hb, Lib.hid (.inr ⟨⟨_, _, rfl⟩, by simp [numOk, h]⟩)⟩
  | _ =>
    refine (Any.strconv_Atoi_syntax_var Tryd.laysC172 s (by omega) h _ _ w e').mono ?_
    rintro e w' ⟨N, rfl, _, _, hb⟩
    exact ⟨_, _, rfl, hb, Lib.hid (.inr ⟨⟨_, _, rfl⟩, by simp [numOk, h]⟩)⟩

set_option maxHeartbeats 400000 in
theorem numberError_any (s : ByteArray) (w : World) (hs : s.size ≤ 140737488355328) (h0 : 0 < s.size) (hv : NumVars w) :
    Calls Tryd.prog 106 #[.string s] w fun e w' => e = .returned (.int .i64 (numErr s)) ∧ Below w.heap.size w w' := by
  have HV := Lib.hid (hv.alloc (.cells #[.int .u8 4] 111))
  clear hv
  have HG : Hid (s[0]! = s[0]) := Lib.hid (by simp [h0])
  have hbyte : s[0].toNat < 256 := UInt8.toNat_lt _
  by_cases hp : pastP (inCls [4]) s 0 < s.size
  · go_enter Tryd.func106, Tryd.ntmps106
    go_wp2_with (first
      | (go_at_call 85; refine (past1 4 s _ _ (le_max hs) (by omega) (by omega)).mono ?_; rintro e w' ⟨rfl, rfl⟩))
    go_ret
    exact ⟨ret_int (by unfold numErr; rw [if_pos hp]), (Below.refl _ _).alloc (Nat.le_refl _) _⟩
  · by_cases hq : s[0].toNat = 48 ∧ 1 < s.size
    · obtain ⟨hq1, hq2⟩ := hq
      have HQ := Lib.hid hq1
      have hq3 : ((s[0].toNat : Int) == 48) = true := by simp [hq1]
      clear hq1
      go_enter Tryd.func106, Tryd.ntmps106
      go_wp2_with (first
        | (go_at_call 85; refine (past1 4 s _ _ (le_max hs) (by omega) (by omega)).mono ?_; rintro e w' ⟨rfl, rfl⟩))
      go_ret
      exact ⟨ret_int (by unfold numErr; rw [if_neg hp, HG.out, if_pos ⟨HQ.out, hq2⟩]), (Below.refl _ _).alloc (Nat.le_refl _) _⟩
    · have HQ := Lib.hid hq
      by_cases h48 : s[0].toNat = 48
      · have h1 : s.size ≤ 1 := by omega
        have hq3 : ((s[0].toNat : Int) == 48) = true := by simp [h48]
        clear hq h48
        go_enter Tryd.func106, Tryd.ntmps106
        go_wp2_with (first
          | (go_at_call 85; refine (past1 4 s _ _ (le_max hs) (by omega) (by omega)).mono ?_; rintro e w' ⟨rfl, rfl⟩)
          | (go_at_call 123; refine (atoi_any s _ hs HV.out).mono ?_; rintro e w' ⟨v, ev, rfl, hb, hev⟩; rcases hev.out with ⟨rfl, h⟩ | ⟨⟨t, p, rfl⟩, h⟩ <;> (have HE := Lib.hid h; clear h hev)))
        all_goals go_ret
        all_goals refine ⟨ret_int ?_, ((Below.refl _ _).alloc (Nat.le_refl _) _).trans (hb.mono (by simp))⟩
        all_goals unfold numErr
        all_goals rw [if_neg hp, HG.out, if_neg HQ.out, HE.out]
        all_goals simp [*]
      · have hq3 : ((s[0].toNat : Int) == 48) = false := by simp; omega
        clear hq h48
        go_enter Tryd.func106, Tryd.ntmps106
        go_wp2_with (first
          | (go_at_call 85; refine (past1 4 s _ _ (le_max hs) (by omega) (by omega)).mono ?_; rintro e w' ⟨rfl, rfl⟩)
          | (go_at_call 123; refine (atoi_any s _ hs HV.out).mono ?_; rintro e w' ⟨v, ev, rfl, hb, hev⟩; rcases hev.out with ⟨rfl, h⟩ | ⟨⟨t, p, rfl⟩, h⟩ <;> (have HE := Lib.hid h; clear h hev)))
        all_goals go_ret
        all_goals refine ⟨ret_int ?_, ((Below.refl _ _).alloc (Nat.le_refl _) _).trans (hb.mono (by simp))⟩
        all_goals unfold numErr
        all_goals rw [if_neg hp, HG.out, if_neg HQ.out, HE.out]
        all_goals simp [*]
end Go.Proofs.YtjadjmkbjolklaaDoor
