/- The contract of lex.Apply. -/
import Derived.Test.YtjadjmkbjolklaaDoorLexM
namespace Go.Proofs.YtjadjmkbjolklaaDoor
open Go.RowKit

theorem chgs_ord (s : ByteArray) : ∀ (l : List Spl) (f g : Int), 0 ≤ f → f ≤ s.size → splRight s.size f l = true →
    chOrd s.size f.toNat (chgs s g l) ∧ ((afterB s f.toNat (chgs s g l)).length : Int) = (s.size - f) + (grown s g l - g)
  | [], f, g, h0, h1, _ => by
    refine ⟨?_, ?_⟩
    · show f.toNat ≤ s.size
      omega
    · show ((s.data.toList.drop f.toNat).length : Int) = _ + (g - g)
      simp
      omega
  | x :: r, f, g, h0, h1, h => by
    rw [splRight] at h
    split at h
    · cases h
    · have ih := chgs_ord s r x.to_ (g + ((x.text.size : Int) - (s.extract x.from_.toNat x.to_.toNat).size)) (by omega) (by omega) h
      refine ⟨⟨by show ((f.toNat : Nat) : Int) ≤ x.from_; omega, by show x.from_ ≤ x.to_; omega, by show x.to_ ≤ _; omega, ih.1⟩, ?_⟩
      rw [chgs, afterB, grown]
      simp only [List.length_append, Int.natCast_add]
      rw [ih.2]
      have e1 : (x.text.data.toList.length : Int) = x.text.size := by simp
      have e2 : ((s.extract x.from_.toNat x.to_.toNat).size : Int) = x.to_ - x.from_ := by simp; omega
      have e3 : (((s.data.toList.drop f.toNat).take (x.from_.toNat - f.toNat)).length : Int) = x.from_ - f := by simp; omega
      rw [e1, e2]
      show (((s.data.toList.drop f.toNat).take (x.from_.toNat - f.toNat)).length : Int) + _ = _
      rw [e3]
      omega

/-- What lex.Apply returns. -/
def applyRes (s : ByteArray) (l : List Spl) : List UInt8 × Int := if (planAnyRes s l).2 ≠ 0 then ([], (planAnyRes s l).2) else (afterB s 0 (chgs s 0 l), 0)

theorem planAny_ok {s : ByteArray} {l : List Spl} (h : (planAnyRes s l).2 = 0) :
    (textErr s).2 = 0 ∧ splErr s l = 0 ∧ planAnyRes s l = (chgs s 0 l, 0) ∧ (s.size : Int) + grown s 0 l ≤ 2500 := by
  unfold planAnyRes at h ⊢
  split at h
  · rename_i h1
    exact absurd h h1
  · rename_i h1
    split at h
    · rename_i h2
      exact absurd h h2
    · rename_i h2
      unfold planRes at h ⊢
      split at h
      · cases h
      · rename_i h3
        refine ⟨by simpa using h1, by simpa using h2, ?_, by omega⟩
        rw [if_neg h1, if_neg h2, if_neg h3]

set_option maxRecDepth 100000 in
set_option maxHeartbeats 1000000 in
theorem apply_any (s : ByteArray) (v : Value) (l : List Spl) (w : World) (hs : s.size ≤ 140737488355328) (hl : l.length ≤ 140737488355328) (ht : ∀ x ∈ l, x.text.size ≤ 140737488355328) (hv : SplIn w w.heap.size v l) :
    Calls Tryd.prog 34 #[.string s, v] w fun e w' => e = .returned (.tuple #[.string ⟨(applyRes s l).1.toArray⟩, .int .i64 (applyRes s l).2]) ∧ Below w.heap.size w w' := by
  have HV := Lib.hid hv
  have HT := Lib.hid ht
  obtain ⟨A, c, rfl, _⟩ := hv
  clear ht
  by_cases he : (planAnyRes s l).2 = 0
  · have HE := Lib.hid he
    have heb : ((planAnyRes s l).2 != 0) = false := by simpa using he
    clear he
    go_enter Tryd.func34, Tryd.ntmps34
    go_wp2_with (go_at_call 68; refine (planAny_any s _ l _ hs hl HT.out HV.out).mono ?_; rintro e w1 ⟨v', rfl, hb1, hrow⟩)
    obtain ⟨p1, p2, p3, p4⟩ := planAny_ok HE.out
    have q := splErr_ok p2
    have q2 := chgs_ord s l 0 0 (Int.le_refl 0) (by omega) q.2.1
    rw [p3] at hrow
    have hci := chgIn_of_own hrow
    have HC := Lib.hid hci
    have HQ := Lib.hid q2
    have HP4 := Lib.hid p4
    clear p1 p2 p3 p4 q2 hci hrow
    go_wp2_with (go_at_call 69; refine (textAfter_any s _ (chgs s 0 l) _ hs (by rw [chgs_length]; omega) HQ.out.1 (by have h1 := HQ.out.2; have h2 := HP4.out; simp only [Int.toNat_zero] at h1; omega) HC.out).mono ?_; rintro e w2 ⟨rfl, hb2⟩)
    go_ret2
    have hr : applyRes s l = (afterB s 0 (chgs s 0 l), 0) := by unfold applyRes; rw [if_neg (by rw [HE.out]; simp)]
    rw [hr]
    exact ⟨rfl, hb1.trans (hb2.mono hb1.size)⟩
  · have HE := Lib.hid he
    have heb : ((planAnyRes s l).2 != 0) = true := by simpa using he
    clear he
    go_enter Tryd.func34, Tryd.ntmps34
    go_wp2_with (go_at_call 68; refine (planAny_any s _ l _ hs hl HT.out HV.out).mono ?_; rintro e w1 ⟨v', rfl, hb1, hrow⟩)
    go_ret2
    have hr : applyRes s l = ([], (planAnyRes s l).2) := by unfold applyRes; rw [if_pos HE.out]
    rw [hr]
    exact ⟨rfl, hb1⟩
end Go.Proofs.YtjadjmkbjolklaaDoor
