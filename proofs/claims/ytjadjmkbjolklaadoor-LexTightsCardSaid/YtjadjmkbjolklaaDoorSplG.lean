/- The contracts of the reference's Moved, Undo, and of few. -/
import Derived.Test.YtjadjmkbjolklaaDoorSplF
import Derived.Test.YtjadjmkbjolklaaDoorMoved
import Derived.StillTailTactics
namespace Go.Proofs.YtjadjmkbjolklaaDoor
open Go.RowKit

theorem grow1_in {s : ByteArray} {x : Spl} (h1 : 0 ≤ x.from_) (h2 : x.from_ ≤ x.to_) (h3 : x.to_ ≤ s.size) : grow1 s x = (x.text.size : Int) - (x.to_ - x.from_) := by
  unfold grow1
  simp only [ByteArray.size_extract]
  omega

set_option maxRecDepth 100000 in
set_option maxHeartbeats 1000000 in
theorem refMoved_any (s : ByteArray) (v : Value) (l : List Spl) (at_ : Int) (w : World) (hs : s.size ≤ 140737488355328) (hl : l.length ≤ 140737488355328) (ht : ∀ x ∈ l, x.text.size ≤ 140737488355328) (hv : SplIn w w.heap.size v l) :
    Calls Tryd.prog 37 #[.string s, v, .int .i64 at_] w fun e w' => e = .returned (.tuple #[.int .i64 (movedRes s l at_).1, .int .i64 (movedRes s l at_).2]) ∧ Below w.heap.size w w' := by
  have HV := Lib.hid hv
  have HT := Lib.hid ht
  obtain ⟨A, c, rfl, hA⟩ := hv
  have HA := Lib.hid hA
  clear ht hA
  by_cases he : (planAnyRes s l).2 = 0
  · have HE := Lib.hid he
    have heb : ((planAnyRes s l).2 != 0) = false := by simpa using he
    clear he
    by_cases hin : at_ < 0 ∨ (s.size : Int) < at_
    · have HR := Lib.hid (show movedRes s l at_ = (0, 3) by unfold movedRes; rw [if_neg (by rw [HE.out]; simp), if_pos hin])
      by_cases h0 : at_ < 0
      · clear hin
        go_enter Tryd.func37, Tryd.ntmps37
        go_wp2_with (go_at_call 70; refine (refCheck_any s _ l _ hs hl HT.out HV.out).mono ?_; rintro e w1 ⟨rfl, hb1⟩)
        go_ret2
        rw [HR.out]
        exact ⟨rfl, hb1⟩
      · have h1 : (s.size : Int) < at_ := by omega
        clear hin
        go_enter Tryd.func37, Tryd.ntmps37
        go_wp2_with (go_at_call 70; refine (refCheck_any s _ l _ hs hl HT.out HV.out).mono ?_; rintro e w1 ⟨rfl, hb1⟩)
        go_ret2
        rw [HR.out]
        exact ⟨rfl, hb1⟩
    · have h0 : 0 ≤ at_ := by omega
      have h1 : at_ ≤ s.size := by omega
      have HI := Lib.hid (splRight_in s.size l 0 (Int.le_refl 0) (splErr_ok (planAny_ok HE.out).2.1).2.1 HT.out)
      have HR := Lib.hid (show movedRes s l at_ = mvP s at_ 0 l by unfold movedRes; rw [if_neg (by rw [HE.out]; simp), if_neg hin])
      have hl40 : l.length ≤ 40 := (splErr_ok (planAny_ok HE.out).2.1).1
      clear hin
      go_enter Tryd.func37, Tryd.ntmps37
      go_wp2_with (go_at_call 70; refine (refCheck_any s _ l _ hs hl HT.out HV.out).mono ?_; rintro e w1 ⟨rfl, hb1⟩)
      go_loopw [9, 10] (fun mo i wr => ∃ (k : Nat) (g : Int), k ≤ l.length ∧ i = .int .i64 k ∧ mo = .int .i64 g ∧ Hid (mvP s at_ 0 l = mvP s at_ g (l.drop k)) ∧ -((k : Int) * 140737488355328) ≤ g ∧ g ≤ (k : Int) * 140737488355328 ∧ Below w.heap.size w wr) (fun _ i _ => l.length - (intOf i).toNat)
      case atStart => exact ⟨0, 0, by omega, rfl, rfl, Lib.hid rfl, by omega, by omega, hb1⟩
      case round =>
        clear hb1
        obtain ⟨k, g, hk, rfl, rfl, HK, hg1, hg2, hb⟩ := hrel
        by_cases hlt : k < l.length
        · obtain ⟨x, hx⟩ : ∃ x, l[k]? = some x := ⟨_, List.getElem?_eq_getElem hlt⟩
          obtain ⟨b, off, rfl, hB, q1, q2, q3⟩ := HA.out k x hx
          have d1 := (hb.cell (p := ⟨b, _, none⟩) hB).trans q1
          have d2 := (hb.cell (p := ⟨b, _, none⟩) hB).trans q2
          have d3 := (hb.cell (p := ⟨b, _, none⟩) hB).trans q3
          have HX := Lib.hid hx
          have hx4 : x.text.size ≤ 140737488355328 := HT.out x (List.mem_of_getElem? hx)
          obtain ⟨x1, x2, x3, _⟩ := HI.out x (List.mem_of_getElem? hx)
          clear q1 q2 q3 hx
          by_cases t1 : x.from_ ≤ at_
          · by_cases t2 : at_ < x.to_
            · have HM := Lib.hid (show mvP s at_ g (l.drop k) = (0, 7) by rw [mvP_step s at_ g l k x HX.out, if_pos ⟨t1, t2⟩])
              go_wp2_with fail
              go_ret2
              rw [HR.out, HK.out, HM.out]
              exact ⟨rfl, hb⟩
            · have t3 : x.to_ ≤ at_ := by omega
              have HM := Lib.hid (show mvP s at_ g (l.drop k) = mvP s at_ (g + ((x.text.size : Int) - (x.to_ - x.from_))) (l.drop (k + 1)) by rw [mvP_step s at_ g l k x HX.out, if_neg (fun h => t2 h.2), if_pos t3, grow1_in x1 x2 x3])
              have w1 : IntKind.i64.wrap (x.to_ - x.from_) = x.to_ - x.from_ := by rw [IntKind.wrap_i64]; omega
              have w2 : IntKind.i64.wrap ((x.text.size : Int) - (x.to_ - x.from_)) = (x.text.size : Int) - (x.to_ - x.from_) := by rw [IntKind.wrap_i64]; omega
              have w3 : IntKind.i64.wrap (g + ((x.text.size : Int) - (x.to_ - x.from_))) = g + ((x.text.size : Int) - (x.to_ - x.from_)) := by rw [IntKind.wrap_i64]; omega
              go_wp2_with fail
              go_quiet (fail)
              go_wp2
              go_roundw
              case rel => exact ⟨k + 1, _, by omega, by go_num, rfl, Lib.hid (by rw [HK.out, HM.out]), by omega, by omega, below_drewN hb _⟩
              case measure => simp [intOf]; omega
          · have t3 : at_ < x.to_ := by omega
            have HM := Lib.hid (show mvP s at_ g (l.drop k) = mvP s at_ g (l.drop (k + 1)) by rw [mvP_step s at_ g l k x HX.out, if_neg (fun h => t1 h.1), if_neg (by omega)])
            go_wp2_with fail
            go_roundw
            case rel => exact ⟨k + 1, g, by omega, by go_num, rfl, Lib.hid (by rw [HK.out, HM.out]), by omega, by omega, hb⟩
            case measure => simp [intOf]; omega
        · have hkl : k = l.length := by omega
          have HM := Lib.hid (show mvP s at_ 0 l = (at_ + g, 0) by rw [HK.out, List.drop_eq_nil_of_le (by omega)]; rfl)
          clear hkl
          go_wp2_with fail
          go_ret2
          rw [HR.out, HM.out]
          exact ⟨rfl, hb⟩
  · have heb : ((planAnyRes s l).2 != 0) = true := by simpa using he
    have HR := Lib.hid (show movedRes s l at_ = (0, (planAnyRes s l).2) by unfold movedRes; rw [if_pos he])
    clear he
    go_enter Tryd.func37, Tryd.ntmps37
    go_wp2_with (go_at_call 70; refine (refCheck_any s _ l _ hs hl HT.out HV.out).mono ?_; rintro e w1 ⟨rfl, hb1⟩)
    go_ret2
    rw [HR.out]
    exact ⟨rfl, hb1⟩

/-- The call answers yes or no, and nothing has changed. -/
def SomeB (w : World) (e : Ending) (w' : World) : Prop := ∃ b : Bool, e = .returned (.bool b) ∧ w = w'
theorem SomeB.mk {w : World} {b : Bool} : SomeB w (.returned (.bool b)) w := ⟨b, rfl, rfl⟩

set_option maxRecDepth 100000 in
set_option maxHeartbeats 400000 in
theorem few_any (v : Value) (l : List Spl) (w : World) (hl : l.length ≤ 140737488355328) (ht : ∀ x ∈ l, x.text.size ≤ 140737488355328) (hv : SplIn w w.heap.size v l) :
    Calls Tryd.prog 33 #[v] w (SomeB w) := by
  have HT := Lib.hid ht
  obtain ⟨A, c, rfl, hA⟩ := hv
  have HA := Lib.hid hA
  clear ht hA
  go_enter Tryd.func33, Tryd.ntmps33
  go_wp2
  go_loop [3, 4] (fun n i => ∃ (k m : Nat), k ≤ l.length ∧ i = .int .i64 k ∧ n = .int .i64 m ∧ m ≤ 3000) (fun _ i => l.length - (intOf i).toNat)
  case atStart => exact ⟨0, 0, by omega, rfl, rfl, by omega⟩
  case round =>
    obtain ⟨k, m, hk, rfl, rfl, hm⟩ := hrel
    by_cases hlt : k < l.length
    · obtain ⟨x, hx⟩ : ∃ x, l[k]? = some x := ⟨_, List.getElem?_eq_getElem hlt⟩
      obtain ⟨b, off, rfl, hB, q1, q2, q3⟩ := HA.out k x hx
      have hx4 : x.text.size ≤ 140737488355328 := HT.out x (List.mem_of_getElem? hx)
      clear hx q1 q2
      by_cases h30 : 3000 < m + x.text.size
      · go_wp2
        go_ret
        exact SomeB.mk
      · go_wp2
        go_round
        case rel => exact ⟨k + 1, m + x.text.size, by omega, by go_num, by go_num, by omega⟩
        case measure => simp [intOf]; omega
    · go_wp2
      go_ret
      exact SomeB.mk
end Go.Proofs.YtjadjmkbjolklaaDoor
