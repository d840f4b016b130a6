/- The contracts of lex.Moved, lex.Undo. -/
import Derived.Test.YtjadjmkbjolklaaGreatDoorSplA
import Derived.BigQuiet
import Derived.Deep.QuietTactic
namespace Go.Proofs.YtjadjmkbjolklaaGreatDoor
open Go.RowKit

/-- The bounds of growths. -/
theorem grow1_bd {s : ByteArray} {x : Spl} (hs : s.size ≤ 140737488355328) (ht : x.text.size ≤ 140737488355328) : -140737488355328 ≤ grow1 s x ∧ grow1 s x ≤ 140737488355328 := by
  unfold grow1
  simp only [ByteArray.size_extract]
  omega

theorem chg_loop {W : World} {B : Nat} {c0 c1 c2 c3 c4 : Value} (h : W.heap[B]? = some (.cells #[c0, c1, c2, c3, c4] 79 (0, 0))) :
    W.cell? ⟨B, 0, none⟩ = some c0 ∧ W.cell? ⟨B, 1, none⟩ = some c1 ∧ W.cell? ⟨B, 2, none⟩ = some c2 ∧ W.cell? ⟨B, 3, none⟩ = some c3 ∧ W.cell? ⟨B, 4, none⟩ = some c4 :=
  ⟨cell_of_row W _ 0 _ 79 (0, 0) h, cell_of_row W _ 1 _ 79 (0, 0) h, cell_of_row W _ 2 _ 79 (0, 0) h, cell_of_row W _ 3 _ 79 (0, 0) h, cell_of_row W _ 4 _ 79 (0, 0) h⟩

set_option maxRecDepth 100000 in
set_option maxHeartbeats 1000000 in
theorem moved_any (s : ByteArray) (v : Value) (l : List Spl) (at_ : Int) (w : World) (hs : s.size ≤ 140737488355328) (hl : l.length ≤ 140737488355328) (ht : ∀ x ∈ l, x.text.size ≤ 140737488355328) (hv : SplIn w w.heap.size v l) :
    Calls Tryz.prog 9 #[.string s, v, .int .i64 at_] w fun e w' => e = .returned (.tuple #[.int .i64 (movedRes s l at_).1, .int .i64 (movedRes s l at_).2]) ∧ Below w.heap.size w w' := by
  have HV := Lib.hid hv
  have HT := Lib.hid ht
  obtain ⟨A, c, rfl, _⟩ := hv
  clear ht
  by_cases he : (planAnyRes s l).2 = 0
  · have HE := Lib.hid he
    have heb : ((planAnyRes s l).2 != 0) = false := by simpa using he
    clear he
    by_cases hin : at_ < 0 ∨ (s.size : Int) < at_
    · have HR := Lib.hid (show movedRes s l at_ = (0, 3) by unfold movedRes; rw [if_neg (by rw [HE.out]; simp), if_pos hin])
      by_cases h0 : at_ < 0
      · clear hin
        go_enter Tryz.func9, Tryz.ntmps9
        go_wp2_with (go_at_call 28; refine (planAny_any s _ l _ hs hl HT.out HV.out).mono ?_; rintro e w1 ⟨v', rfl, hb1, hrow⟩; clear hrow)
        go_ret2
        rw [HR.out]
        exact ⟨rfl, hb1⟩
      · have h1 : (s.size : Int) < at_ := by omega
        clear hin
        go_enter Tryz.func9, Tryz.ntmps9
        go_wp2_with (go_at_call 28; refine (planAny_any s _ l _ hs hl HT.out HV.out).mono ?_; rintro e w1 ⟨v', rfl, hb1, hrow⟩; clear hrow)
        go_ret2
        rw [HR.out]
        exact ⟨rfl, hb1⟩
    · have h0 : 0 ≤ at_ := by omega
      have h1 : at_ ≤ s.size := by omega
      have HI := Lib.hid (splRight_in s.size l 0 (Int.le_refl 0) (splErr_ok (planAny_ok HE.out).2.1).2.1 HT.out)
      have HR := Lib.hid (show movedRes s l at_ = mvP s at_ 0 l by unfold movedRes; rw [if_neg (by rw [HE.out]; simp), if_neg hin])
      clear hin
      go_enter Tryz.func9, Tryz.ntmps9
      go_wp2_with (go_at_call 28; refine (planAny_any s _ l _ hs hl HT.out HV.out).mono ?_; rintro e w1 ⟨v', rfl, hb1, hrow⟩; rw [(planAny_ok HE.out).2.2.1] at hrow; obtain ⟨A', c', hv', hA'⟩ := chgIn_of_own hrow; rw [chgs_length] at hv'; subst hv'; have HA := Lib.hid hA'; have hl40 : l.length ≤ 40 := (splErr_ok (planAny_ok HE.out).2.1).1; clear hrow hA')
      have hsz := hb1.size
      have hlen : (chgs s 0 l).length = l.length := chgs_length s 0 l
      have HL := Lib.hid hlen
      clear hlen
      go_loopw [10, 33] (fun to i wr => ∃ (k : Nat) (g : Int), k ≤ l.length ∧ i = .int .i64 k ∧ to = .int .i64 (at_ + g) ∧ Hid (mvP s at_ 0 l = mvP s at_ g (l.drop k)) ∧ -((k : Int) * 140737488355328) ≤ g ∧ g ≤ (k : Int) * 140737488355328 ∧ Below w.heap.size w wr ∧ Below w1.heap.size w1 wr) (fun _ i _ => l.length - (intOf i).toNat)
      case atStart => exact ⟨0, 0, by omega, rfl, by simp, Lib.hid rfl, by omega, by omega, hb1, Below.refl _ _⟩
      case round =>
        obtain ⟨k, g, hk, rfl, rfl, HK, hg1, hg2, hb, hbb⟩ := hrel
        by_cases hlt : k < l.length
        · obtain ⟨x, hx⟩ : ∃ x, l[k]? = some x := ⟨_, List.getElem?_eq_getElem hlt⟩
          obtain ⟨y, hy⟩ : ∃ y, (chgs s 0 l)[k]? = some y := ⟨_, List.getElem?_eq_getElem (by rw [HL.out]; exact hlt)⟩
          obtain ⟨b, off, rfl, hB, q1, q2, q3, q4, q5⟩ := HA.out k y hy
          obtain ⟨x', hx', e1, e2, e3, e4⟩ := chgs_get s l 0 k y hy
          obtain rfl : x = x' := Option.some.inj (hx.symm.trans hx')
          rw [e1] at q1
          rw [e2] at q2
          rw [e3] at q3
          rw [e4] at q4
          have d1 := (hbb.cell (p := ⟨b, _, none⟩) hB).trans q1
          have d2 := (hbb.cell (p := ⟨b, _, none⟩) hB).trans q2
          have d3 := (hbb.cell (p := ⟨b, _, none⟩) hB).trans q3
          have d4 := (hbb.cell (p := ⟨b, _, none⟩) hB).trans q4
          have d5 := (hbb.cell (p := ⟨b, _, none⟩) hB).trans q5
          have HX := Lib.hid hx
          have hx4 : x.text.size ≤ 140737488355328 := HT.out x (List.mem_of_getElem? hx)
          have hgb := grow1_bd (x := x) hs hx4
          have hnew := World.alloc_heap_new wr (.cells #[.int .i64 x.from_, .int .i64 x.to_, .string x.text, .string (s.extract x.from_.toNat x.to_.toNat), .int .i64 y.at_] 79)
          obtain ⟨c0, c1, c2, c3, c4⟩ := chg_loop hnew
          have hB2 := hb.alloc hb.size (.cells #[.int .i64 x.from_, .int .i64 x.to_, .string x.text, .string (s.extract x.from_.toNat x.to_.toNat), .int .i64 y.at_] 79)
          have hBB2 := hbb.alloc hbb.size (.cells #[.int .i64 x.from_, .int .i64 x.to_, .string x.text, .string (s.extract x.from_.toNat x.to_.toNat), .int .i64 y.at_] 79)
          have HY5 := Lib.hid (show y.text = x.text ∧ y.out = s.extract x.from_.toNat x.to_.toNat from ⟨e3, e4⟩)
          clear q1 q2 q3 q4 q5 hx hx' hy e1 e2 e3 e4
          by_cases t1 : x.from_ ≤ at_
          · by_cases t2 : at_ < x.to_
            · have HM := Lib.hid (show mvP s at_ g (l.drop k) = (0, 7) by rw [mvP_step s at_ g l k x HX.out, if_pos ⟨t1, t2⟩])
              go_wp2_with fail
              go_ret2
              rw [HR.out, HK.out, HM.out]
              exact ⟨rfl, hB2⟩
            · have t3 : x.to_ ≤ at_ := by omega
              have HM := Lib.hid (show mvP s at_ g (l.drop k) = mvP s at_ (g + grow1 s x) (l.drop (k + 1)) by rw [mvP_step s at_ g l k x HX.out, if_neg (fun h => t2 h.2), if_pos t3])
              have hgr : grow1 s x = (x.text.size : Int) - (s.extract x.from_.toNat x.to_.toNat).size := rfl
              have hos : (s.extract x.from_.toNat x.to_.toNat).size ≤ s.size := by simp; omega
              have HGR := Lib.hid hgr
              have C72 := Lib.hid (fun w => growth_any ⟨x.from_, x.to_, x.text, s.extract x.from_.toNat x.to_.toNat, y.at_⟩ w hx4 (by show (s.extract x.from_.toNat x.to_.toNat).size ≤ _; omega))
              generalize s.extract x.from_.toNat x.to_.toNat = o at d4 c0 c1 c2 c3 c4 hB2 hBB2 HY5 HGR C72 hos hgr
              rw [hgr] at hgb
              clear hgr
              go_wp2_with (go_at_call 29; refine (C72.out _).mono ?_; rintro e w3 ⟨rfl, hb3⟩)
              go_roundw
              case rel =>
                refine ⟨k + 1, g + grow1 s x, by omega, by go_num, ?_, Lib.hid (by rw [HK.out, HM.out]), ?_, ?_, hB2.trans (hb3.mono hB2.size), hBB2.trans (hb3.mono hBB2.size)⟩
                · rw [HGR.out, Int.add_assoc]
                · rw [HGR.out]; omega
                · rw [HGR.out]; omega
              case measure => simp [intOf]; omega
          · have t3 : at_ < x.to_ := by have := (HI.out x (List.mem_of_getElem? HX.out)).2.1; omega
            have HM := Lib.hid (show mvP s at_ g (l.drop k) = mvP s at_ g (l.drop (k + 1)) by rw [mvP_step s at_ g l k x HX.out, if_neg (fun h => t1 h.1), if_neg (by omega)])
            go_wp2_with fail
            go_roundw
            case rel => exact ⟨k + 1, g, by omega, by go_num, rfl, Lib.hid (by rw [HK.out, HM.out]), by omega, by omega, hB2, hBB2⟩
            case measure => simp [intOf]; omega
        · have hkl : k = l.length := by omega
          have HM := Lib.hid (show mvP s at_ 0 l = (at_ + g, 0) by rw [HK.out, List.drop_eq_nil_of_le (by omega)]; rfl)
          clear hkl
          go_wp2_with fail
          go_ret2
          rw [HR.out, HM.out]
          exact ⟨rfl, hb⟩
  · have HE := Lib.hid he
    have heb : ((planAnyRes s l).2 != 0) = true := by simpa using he
    have HR := Lib.hid (show movedRes s l at_ = (0, (planAnyRes s l).2) by unfold movedRes; rw [if_pos he])
    clear he
    go_enter Tryz.func9, Tryz.ntmps9
    go_wp2_with (go_at_call 28; refine (planAny_any s _ l _ hs hl HT.out HV.out).mono ?_; rintro e w1 ⟨v', rfl, hb1, hrow⟩; clear hrow)
    go_ret2
    rw [HR.out]
    exact ⟨rfl, hb1⟩
end Go.Proofs.YtjadjmkbjolklaaGreatDoor
