/- The contract of the reference's Undo. -/
import Derived.Test.YtjadjmkbjolklaaDoorSplF
import Derived.Test.YtjadjmkbjolklaaDoorUndo
import Derived.StillTactics
import Derived.OwnWalk
import Derived.Laws.Pointers
import Derived.Deep.RegionHeld3
import Derived.Deep.AppendLies
namespace Go.Proofs.YtjadjmkbjolklaaDoor
open Go.RowKit

theorem grow1_in2 {s : ByteArray} {x : Spl} (h1 : 0 ≤ x.from_) (h2 : x.from_ ≤ x.to_) (h3 : x.to_ ≤ s.size) : grow1 s x = (x.text.size : Int) - (x.to_ - x.from_) := by
  unfold grow1
  simp only [ByteArray.size_extract]
  omega

set_option maxRecDepth 100000 in
set_option maxHeartbeats 1000000 in
theorem refUndo_any (s : ByteArray) (v : Value) (l : List Spl) (w : World) (hs : s.size ≤ 140737488355328) (hl : l.length ≤ 140737488355328) (ht : ∀ x ∈ l, x.text.size ≤ 140737488355328) (hv : SplIn w w.heap.size v l) :
    Calls Tryd.prog 39 #[.string s, v] w fun e w' => ∃ v', e = .returned (.tuple #[v', .int .i64 (undoRes s l).2]) ∧ Below w.heap.size w w' ∧ SplIn w' w'.heap.size v' (undoRes s l).1 := by
  have HV := Lib.hid hv
  have HT := Lib.hid ht
  obtain ⟨A, c, rfl, hA⟩ := hv
  have HA := Lib.hid hA
  clear ht hA
  by_cases he : (planAnyRes s l).2 = 0
  · have HE := Lib.hid he
    have heb : ((planAnyRes s l).2 != 0) = false := by simpa using he
    have HR := Lib.hid (show undoRes s l = (backP s 0 l, 0) by unfold undoRes; rw [if_neg (by rw [he]; simp)])
    have hl40 := planAny_le he
    have HI := Lib.hid (splRight_in s.size l 0 (Int.le_refl 0) (splErr_ok (planAny_ok he).2.1).2.1 HT.out)
    clear he
    obtain ⟨i0, hi, hz0, hz1, hz2⟩ := info_parts info56
    go_enter Tryd.func39, Tryd.ntmps39
    go_wp2_with (go_at_call 70; refine (refCheck_any s _ l _ hs hl HT.out HV.out).mono ?_; rintro e w1 ⟨rfl, hb1⟩)
    go_loopw [7, 8, 9] (fun out mo i wr => ∃ (k : Nat) (g : Int) (done : List Spl), k ≤ l.length ∧ i = .int .i64 k ∧ mo = .int .i64 g ∧ wr.ownsRow w.heap.size 56 3 out done.length (splCells done) ∧ done.length ≤ k ∧
        Hid (done.length = k ∧ backP s 0 l = done ++ backP s g (l.drop k)) ∧ -((k : Int) * 140737488355328) ≤ g ∧ g ≤ (k : Int) * 140737488355328 ∧ Below w.heap.size w wr) (fun _ _ i _ => l.length - (intOf i).toNat)
    case atStart => exact ⟨0, 0, [], by omega, rfl, rfl, World.ownsRow_nil _ _ _ _, by simp, Lib.hid ⟨rfl, rfl⟩, by omega, by omega, hb1⟩
    case round =>
      clear hb1
      obtain ⟨k, g, done, hk, rfl, rfl, hrow, hdk, HD, hg1, hg2, hb⟩ := hrel
      by_cases hlt : k < l.length
      · obtain ⟨x, hx⟩ : ∃ x, l[k]? = some x := ⟨_, List.getElem?_eq_getElem hlt⟩
        obtain ⟨b, off, rfl, hB, q1, q2, q3⟩ := HA.out k x hx
        have d1 := (hb.cell (p := ⟨b, _, none⟩) hB).trans q1
        have d2 := (hb.cell (p := ⟨b, _, none⟩) hB).trans q2
        have d3 := (hb.cell (p := ⟨b, _, none⟩) hB).trans q3
        have hx4 : x.text.size ≤ 140737488355328 := HT.out x (List.mem_of_getElem? hx)
        obtain ⟨x1, x2, x3, _⟩ := HI.out x (List.mem_of_getElem? hx)
        have HX := Lib.hid hx
        have hsz := hb.size
        have hsl := fun wx => run_slice_string (P := Tryd.prog) wx 9 s .i64 .i64 x.from_ x.to_ Tryd.underlying9 x1 x2 x3
        have HN := Lib.hid (show backP s 0 l = (done ++ [⟨x.from_ + g, x.from_ + g + x.text.size, s.extract x.from_.toNat x.to_.toNat⟩]) ++ backP s (g + ((x.text.size : Int) - (x.to_ - x.from_))) (l.drop (k + 1)) by rw [HD.out.2, backP_step s g l k x hx, grow1_in2 x1 x2 x3]; simp)
        clear q1 q2 q3 hx
        generalize s.extract x.from_.toNat x.to_.toNat = o at hsl HN
        have w1 : IntKind.i64.wrap (x.to_ - x.from_) = x.to_ - x.from_ := by rw [IntKind.wrap_i64]; omega
        have w2 : IntKind.i64.wrap ((x.text.size : Int) - (x.to_ - x.from_)) = (x.text.size : Int) - (x.to_ - x.from_) := by rw [IntKind.wrap_i64]; omega
        have w3 : IntKind.i64.wrap (g + ((x.text.size : Int) - (x.to_ - x.from_))) = g + ((x.text.size : Int) - (x.to_ - x.from_)) := by rw [IntKind.wrap_i64]; omega
        have w4 : IntKind.i64.wrap (x.from_ + g + x.text.size) = x.from_ + g + x.text.size := by rw [IntKind.wrap_i64]; omega
        have hnb : u7.ownBlock ≠ some b := fun e => by have := row_base hrow e; omega
        have hn9 : done.length + 1 ≤ maxLen := by unfold maxLen; omega
        have hn8 : (done.length + 1) * 32 ≤ 140737488355328 := by omega
        go_wp2_with fail
        go_region_held3 (fun w' => w'.cell? ⟨b, off + k * 3, none⟩ = some (.int .i64 x.from_) ∧ w'.cell? ⟨b, off + k * 3 + 1, none⟩ = some (.int .i64 x.to_) ∧ w'.cell? ⟨b, off + k * 3 + 2, none⟩ = some (.string x.text))
          (first
            | go_keep
            | (go_split_ands
               refine ⟨?_, ?_, ?_⟩
               · (rw [hgrow.cell_far _ (by simp; omega) (Ne.symm hnb)]; assumption)
               · (rw [hgrow.cell_far _ (by simp; omega) (Ne.symm hnb)]; assumption)
               · (rw [hgrow.cell_far _ (by simp; omega) (Ne.symm hnb)]; assumption)))
          ((refine step_append_lies _ (by rfl) _ _ _ (by rfl) w.heap.size 56 i0 _ 3 32 Tryd.underlying45 hi hz0 hz1 hz2 rfl (by omega) u7 done.length (splCells done) (by rfl) ((hrow.alloc _).drew)
              ⟨wr.heap.size, 0, none⟩ 1 1 [.int .i64 (x.from_ + g), .int .i64 (x.from_ + g + x.text.size), .string o] (by rfl) (by rfl) (World.news_of_block (cs := #[.int .i64 (x.from_ + g), .int .i64 (x.from_ + g + x.text.size), .string o]) (t := 56) (fr := (0, 0)) (heap_alloc_new wr _)) (by simp [Value.oneCell'])
              (by omega) hn9 hn8 (by simp; omega) (wr.heap.size + 1) (by simp) ?_; intro gg cap w1 hown1 hgrow hat hlt))
        rename_i hheld
        obtain ⟨f1, f2, f3⟩ := hheld
        have hb3 : Below w.heap.size w w1 := ((hb.alloc hsz _).drew).grown hgrow (by simp; omega) (fun k e => row_base hrow e)
        clear d1 d2 d3 hgrow hat hlt hsl w4
        go_wp2_with fail
        go_quiet (fail)
        go_wp2
        go_roundw
        case rel =>
          refine ⟨k + 1, _, _, by omega, by go_num, rfl, ?_, ?_, Lib.hid ⟨?_, HN.out⟩, by omega, by omega, below_drewN hb3 _⟩
          · rw [splCells_append, List.length_append]
            exact hown1
          · simp; omega
          · rw [List.length_append, HD.out.1]; rfl
        case measure => simp [intOf]; omega
      · have hkl : k = l.length := by omega
        have HN := Lib.hid (show backP s 0 l = done by rw [HD.out.2, List.drop_eq_nil_of_le (by omega)]; simp [backP])
        clear hkl
        go_wp2
        go_ret2
        rw [HR.out, HN.out]
        exact ⟨_, rfl, hb, splIn_of_own hrow⟩
  · have heb : ((planAnyRes s l).2 != 0) = true := by simpa using he
    have HR := Lib.hid (show undoRes s l = ([], (planAnyRes s l).2) by unfold undoRes; rw [if_pos he])
    clear he
    go_enter Tryd.func39, Tryd.ntmps39
    go_wp2_with (go_at_call 70; refine (refCheck_any s _ l _ hs hl HT.out HV.out).mono ?_; rintro e w1 ⟨rfl, hb1⟩)
    go_ret2
    rw [HR.out]
    exact ⟨_, rfl, hb1, ⟨none, 0, rfl, fun i x h => by simp at h⟩⟩
end Go.Proofs.YtjadjmkbjolklaaDoor
