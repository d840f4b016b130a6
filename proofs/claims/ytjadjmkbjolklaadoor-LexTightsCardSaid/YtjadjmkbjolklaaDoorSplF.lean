/- The contracts of the reference's Spliced, Apply. -/
import Derived.Test.YtjadjmkbjolklaaDoorSplE
import Derived.Test.YtjadjmkbjolklaaDoorDiffed
import Derived.WalkSpells
namespace Go.Proofs.YtjadjmkbjolklaaDoor
open Go.RowKit

theorem aftS_step (s : ByteArray) (f : Nat) (l : List Spl) (k : Nat) (x : Spl) (h : l[k]? = some x) :
    aftS s f (l.drop k) = ((s.extract f x.from_.toNat).data.toList ++ x.text.data.toList) ++ aftS s x.to_.toNat (l.drop (k + 1)) := by
  obtain ⟨hk, rfl⟩ := List.getElem?_eq_some_iff.1 h
  rw [List.drop_eq_getElem_cons hk, aftS_cons, ext_list, List.append_assoc]

theorem str_app (l : List UInt8) (a b : ByteArray) : (⟨l.toArray⟩ : ByteArray) ++ (a ++ b) = ⟨(l ++ (a.data.toList ++ b.data.toList)).toArray⟩ := by
  apply ByteArray.ext
  apply Array.ext'
  simp

theorem len_list (s : ByteArray) : s.data.toList.length = s.size := by simp

theorem ret_str' {a b : ByteArray} (h : a = b) : Ending.returned (.string a) = .returned (.string b) := by rw [h]

theorem str_app1 (l : List UInt8) (a : ByteArray) : (⟨l.toArray⟩ : ByteArray) ++ a = ⟨(l ++ a.data.toList).toArray⟩ := by
  apply ByteArray.ext
  apply Array.ext'
  simp

set_option maxRecDepth 100000 in
set_option maxHeartbeats 1000000 in
theorem refSpliced_any (s : ByteArray) (v : Value) (l : List Spl) (w : World) (hs : s.size ≤ 140737488355328) (hl : l.length ≤ 140737488355328) (hr : splRight s.size 0 l = true) (hlen : (aftS s 0 l).length ≤ 140737488355328) (hv : SplIn w w.heap.size v l) :
    Calls Tryd.prog 71 #[.string s, v] w fun e w' => e = .returned (.string ⟨(aftS s 0 l).toArray⟩) ∧ Below w.heap.size w w' := by
  obtain ⟨A, c, rfl, hA⟩ := hv
  have HA := Lib.hid hA
  have HR := Lib.hid hr
  have HL := Lib.hid hlen
  clear hA hr hlen
  go_enter Tryd.func71, Tryd.ntmps71
  go_wp2
  go_loopw [5, 6, 7] (fun o a i wr => ∃ (k f : Nat) (done : ByteArray), k ≤ l.length ∧ i = .int .i64 k ∧ a = .int .i64 f ∧ o = .string done ∧ f ≤ s.size ∧ Hid (aftS s 0 l = done.data.toList ++ aftS s f (l.drop k) ∧ splRight s.size f (l.drop k) = true) ∧ Below w.heap.size w wr) (fun _ _ i _ => l.length - (intOf i).toNat)
  case atStart => exact ⟨0, 0, ⟨#[]⟩, by omega, rfl, rfl, rfl, by omega, Lib.hid ⟨rfl, HR.out⟩, Below.refl _ _⟩
  case round =>
    obtain ⟨k, f, done, hk, rfl, rfl, rfl, hf, HD, hb⟩ := hrel
    by_cases hlt : k < l.length
    · obtain ⟨x, hx⟩ : ∃ x, l[k]? = some x := ⟨_, List.getElem?_eq_getElem hlt⟩
      obtain ⟨b, off, rfl, hB, q1, q2, q3⟩ := HA.out k x hx
      have d1 := (hb.cell (p := ⟨b, _, none⟩) hB).trans q1
      have d2 := (hb.cell (p := ⟨b, _, none⟩) hB).trans q2
      have d3 := (hb.cell (p := ⟨b, _, none⟩) hB).trans q3
      have hri := HD.out.2
      rw [splRight_step s.size f l k x hx] at hri
      have hst := HD.out.1
      rw [aftS_step s f l k x hx] at hst
      have hsz := HL.out
      rw [hst] at hsz
      simp only [List.length_append] at hsz
      have e1 : (s.extract f x.from_.toNat).data.toList.length = (s.extract f x.from_.toNat).size := len_list _
      have e2 : x.text.data.toList.length = x.text.size := len_list _
      have e3 : done.data.toList.length = done.size := len_list _
      rw [e1, e2, e3] at hsz
      split at hri
      · cases hri
      · rename_i hc
        have o1 : (f : Int) ≤ x.from_ := by omega
        have o2 : x.from_ ≤ x.to_ := by omega
        have o3 : x.to_ ≤ s.size := by omega
        have HST := Lib.hid hst
        have HRI := Lib.hid hri
        have hsl := fun wx => run_slice_string (P := Tryd.prog) wx 9 s .i64 .i64 (f : Int) x.from_ Tryd.underlying9 (by omega) o1 (by omega)
        rw [Int.toNat_natCast] at hsl
        clear q1 q2 q3 hx hri hst hc e1 e2 e3
        generalize s.extract f x.from_.toNat = p at hsl hsz HST
        have a1 : p.size + x.text.size ≤ 9223372036854775807 := by omega
        have a2 : done.size + (p ++ x.text).size ≤ 9223372036854775807 := by simp; omega
        have s1 : ∀ w, (Op.stringOp .add p x.text).run Tryd.prog w = .ok (.string (p ++ x.text)) w := fun w => run_string_add_sum w p x.text a1
        have s2 : ∀ w, (Op.stringOp .add done (p ++ x.text)).run Tryd.prog w = .ok (.string (done ++ (p ++ x.text))) w := fun w => run_string_add_sum w done (p ++ x.text) a2
        clear hsz a1 a2
        go_wp2_with fail
        go_quiet (fail)
        go_wp2
        go_roundw
        case rel =>
          refine ⟨k + 1, x.to_.toNat, done ++ (p ++ x.text), by omega, by go_num, ?_, rfl, by omega, Lib.hid ⟨?_, ?_⟩, below_drewN hb _⟩
          · rw [Int.toNat_of_nonneg (by omega)]
          · rw [HST.out]; simp
          · rw [Int.toNat_of_nonneg (by omega)]; exact HRI.out
        case measure => simp [intOf]; omega
    · have hst := HD.out.1
      rw [List.drop_eq_nil_of_le (by omega)] at hst
      have hst2 : aftS s 0 l = done.data.toList ++ (s.extract f s.size).data.toList := by
        rw [hst, ext_list, List.take_of_length_le (by simp)]
        rfl
      have hsz := HL.out
      rw [hst2] at hsz
      simp only [List.length_append] at hsz
      have e1 : (s.extract f s.size).data.toList.length = (s.extract f s.size).size := len_list _
      have e3 : done.data.toList.length = done.size := len_list _
      rw [e1, e3] at hsz
      have HST := Lib.hid hst2
      have s1 : ∀ w, (Op.stringOp .add done (s.extract f s.size)).run Tryd.prog w = .ok (.string (done ++ s.extract f s.size)) w := fun w => run_string_add_sum w done _ (by omega)
      clear hst hst2 e1 e3 hsz
      go_wp2
      go_ret
      refine ⟨ret_str' ?_, hb⟩
      rw [HST.out]
      apply ByteArray.ext
      apply Array.ext'
      simp

theorem aft_len {s : ByteArray} {l : List Spl} (h : (planAnyRes s l).2 = 0) : (aftS s 0 l).length ≤ 2500 := by
  obtain ⟨p1, p2, p3, p4⟩ := planAny_ok h
  have := (chgs_ord s l 0 0 (Int.le_refl 0) (by omega) (splErr_ok p2).2.1).2
  simp only [Int.toNat_zero] at this
  unfold aftS
  omega

theorem refApply_any (s : ByteArray) (v : Value) (l : List Spl) (w : World) (hs : s.size ≤ 140737488355328) (hl : l.length ≤ 140737488355328) (ht : ∀ x ∈ l, x.text.size ≤ 140737488355328) (hv : SplIn w w.heap.size v l) :
    Calls Tryd.prog 35 #[.string s, v] w fun e w' => e = .returned (.tuple #[.string ⟨(applyRes s l).1.toArray⟩, .int .i64 (applyRes s l).2]) ∧ Below w.heap.size w w' := by
  have HV := Lib.hid hv
  have HT := Lib.hid ht
  clear ht hv
  by_cases he : (planAnyRes s l).2 = 0
  · have HE := Lib.hid he
    have heb : ((planAnyRes s l).2 != 0) = false := by simpa using he
    have HR := Lib.hid (show applyRes s l = (aftS s 0 l, 0) by unfold applyRes; rw [if_neg (by rw [he]; simp)]; rfl)
    clear he
    go_enter Tryd.func35, Tryd.ntmps35
    go_wp2_with (first
      | (go_at_call 70; refine (refCheck_any s _ l _ hs hl HT.out HV.out).mono ?_; rintro e w1 ⟨rfl, hb1⟩)
      | (go_at_call 71; refine (refSpliced_any s _ l _ hs hl (splErr_ok (planAny_ok HE.out).2.1).2.1 (Nat.le_trans (aft_len HE.out) (by omega)) ((HV.out.below hb1).more hb1.size)).mono ?_; rintro e w2 ⟨rfl, hb2⟩))
    go_ret2
    rw [HR.out]
    exact ⟨rfl, hb1.trans (hb2.mono hb1.size)⟩
  · have HR := Lib.hid (show applyRes s l = ([], (planAnyRes s l).2) by unfold applyRes; rw [if_pos he])
    have heb : ((planAnyRes s l).2 != 0) = true := by simpa using he
    clear he
    go_enter Tryd.func35, Tryd.ntmps35
    go_wp2_with (go_at_call 70; refine (refCheck_any s _ l _ hs hl HT.out HV.out).mono ?_; rintro e w1 ⟨rfl, hb1⟩)
    go_ret2
    rw [HR.out]
    exact ⟨rfl, hb1⟩
end Go.Proofs.YtjadjmkbjolklaaDoor
