/- The contract of lex.Undo. -/
import Derived.Test.YtjadjmkbjolklaaGreatDoorMoved
namespace Go.Proofs.YtjadjmkbjolklaaGreatDoor
open Go.RowKit

theorem planAny_le {s : ByteArray} {l : List Spl} (h : (planAnyRes s l).2 = 0) : l.length ≤ 40 := (splErr_ok (planAny_ok h).2.1).1

/-- A change of a plan, by its splice. -/
theorem chgs_at (s : ByteArray) : ∀ (l : List Spl) (g : Int) (k : Nat) (x : Spl), l[k]? = some x → ∃ g', (chgs s g l)[k]? = some ⟨x.from_, x.to_, x.text, s.extract x.from_.toNat x.to_.toNat, x.from_ + g'⟩ ∧
    backP s g l = (backP s g l).take k ++ backP s g' (l.drop k)
  | [], g, k, x, h => by simp at h
  | y :: r, g, 0, x, h => by
    simp only [List.getElem?_cons_zero, Option.some.injEq] at h
    subst h
    exact ⟨g, rfl, rfl⟩
  | y :: r, g, k + 1, x, h => by
    obtain ⟨g', h1, h2⟩ := chgs_at s r (g + grow1 s y) k x (by simpa using h)
    refine ⟨g', by rw [chgs, List.getElem?_cons_succ]; exact h1, ?_⟩
    rw [backP, List.take_succ_cons, List.drop_succ_cons, List.cons_append, ← h2]

theorem undo_app {w wr w2 : World} {o5 : Array Value} (hb : Below w.heap.size w wr) (hb2 : Below (wr.alloc (.cells o5 79)).heap.size (wr.alloc (.cells o5 79)) w2) : Below w.heap.size w w2 :=
  (hb.alloc hb.size _).trans (hb2.mono (by have := hb.size; simp; omega))

set_option maxRecDepth 100000 in
set_option maxHeartbeats 1000000 in
theorem undo_any (s : ByteArray) (v : Value) (l : List Spl) (w : World) (hs : s.size ≤ 140737488355328) (hl : l.length ≤ 140737488355328) (ht : ∀ x ∈ l, x.text.size ≤ 140737488355328) (hv : SplIn w w.heap.size v l) :
    Calls Tryz.prog 10 #[.string s, v] w fun e w' => ∃ v', e = .returned (.tuple #[v', .int .i64 (undoRes s l).2]) ∧ Below w.heap.size w w' ∧ SplIn w' w'.heap.size v' (undoRes s l).1 := by
  have HV := Lib.hid hv
  have HT := Lib.hid ht
  obtain ⟨A, c, rfl, _⟩ := hv
  clear ht
  by_cases he : (planAnyRes s l).2 = 0
  · have HE := Lib.hid he
    have heb : ((planAnyRes s l).2 != 0) = false := by simpa using he
    have HR := Lib.hid (show undoRes s l = (backP s 0 l, 0) by unfold undoRes; rw [if_neg (by rw [he]; simp)])
    have hl40 := planAny_le he
    have HI := Lib.hid (splRight_in s.size l 0 (Int.le_refl 0) (splErr_ok (planAny_ok he).2.1).2.1 HT.out)
    clear he
    obtain ⟨i0, hi, hz0, hz1, hz2⟩ := info_parts info56
    go_enter Tryz.func10, Tryz.ntmps10
    go_wp2_with (first
      | (go_at_call 28; refine (planAny_any s _ l _ hs hl HT.out HV.out).mono ?_; rintro e w1 ⟨v', rfl, hb1, hrow⟩; rw [(planAny_ok HE.out).2.2.1] at hrow; obtain ⟨A', c', hv', hA'⟩ := chgIn_of_own hrow; rw [chgs_length] at hv'; subst hv'; have HA := Lib.hid hA'; clear hrow hA')
      | (at_make; refine wpList_make_own _ rfl _ _ 41 rfl w1.heap.size 40 i0 _ 3 Tryz.underlying41 hi hz0 hz1 .i64 .i64 _ l.length rfl rfl rfl (by rw [hz2]; omega) (by unfold maxLen; omega) (Nat.le_refl _) ?_; intro w2 hown hgrow))
    have hbb2 : Below w1.heap.size w1 w2 := (Below.refl _ _).grown hgrow (Nat.le_refl _) (fun k e => by cases e)
    clear hgrow
    go_loopw [8, 25] (fun out i wr => ∃ (k : Nat) (g : Int) (done : List Spl), k ≤ l.length ∧ i = .int .i64 k ∧ wr.ownsRow w1.heap.size 40 3 out done.length (splCells done) ∧ done.length ≤ k ∧
        Hid (done.length = k ∧ backP s 0 l = done ++ backP s g (l.drop k) ∧ (chgs s 0 l).drop k = chgs s g (l.drop k)) ∧ -((k : Int) * 140737488355328) ≤ g ∧ g ≤ (k : Int) * 140737488355328 ∧ Below w1.heap.size w1 wr) (fun _ i _ => l.length - (intOf i).toNat)
    case atStart => exact ⟨0, 0, [], by omega, rfl, hown, by simp, Lib.hid ⟨rfl, rfl, rfl⟩, by omega, by omega, hbb2⟩
    case round =>
      obtain ⟨k, g, done, hk, rfl, hrow, hdk, HD, hg1, hg2, hbb⟩ := hrel
      clear hbb2 hown
      by_cases hlt : k < l.length
      · obtain ⟨x, hx⟩ : ∃ x, l[k]? = some x := ⟨_, List.getElem?_eq_getElem hlt⟩
        have hy : (chgs s 0 l)[k]? = some ⟨x.from_, x.to_, x.text, s.extract x.from_.toNat x.to_.toNat, x.from_ + g⟩ := by
          have h := congrArg (fun l => l[0]?) HD.out.2.2
          simp only [List.getElem?_drop, Nat.add_zero] at h
          rw [h, chgs_step s g l k x hx]
          rfl
        obtain ⟨b, off, rfl, hB, q1, q2, q3, q4, q5⟩ := HA.out k _ hy
        have d1 := (hbb.cell (p := ⟨b, _, none⟩) hB).trans q1
        have d2 := (hbb.cell (p := ⟨b, _, none⟩) hB).trans q2
        have d3 := (hbb.cell (p := ⟨b, _, none⟩) hB).trans q3
        have d4 := (hbb.cell (p := ⟨b, _, none⟩) hB).trans q4
        have d5 := (hbb.cell (p := ⟨b, _, none⟩) hB).trans q5
        have HX := Lib.hid hx
        have hx4 : x.text.size ≤ 140737488355328 := HT.out x (List.mem_of_getElem? hx)
        have hgb := grow1_bd (x := x) hs hx4
        obtain ⟨x1, x2, x3, _⟩ := HI.out x (List.mem_of_getElem? hx)
        have HN := Lib.hid (show backP s 0 l = (done ++ [⟨x.from_ + g, x.from_ + g + x.text.size, s.extract x.from_.toNat x.to_.toNat⟩]) ++ backP s (g + grow1 s x) (l.drop (k + 1)) by rw [HD.out.2.1, backP_step s g l k x hx]; simp)
        have HC := Lib.hid (show (chgs s 0 l).drop (k + 1) = chgs s (g + grow1 s x) (l.drop (k + 1)) by
          have h := congrArg (List.drop 1) HD.out.2.2
          rw [List.drop_drop, chgs_step s g l k x hx] at h
          exact h)
        have hnew := World.alloc_heap_new wr (.cells #[.int .i64 x.from_, .int .i64 x.to_, .string x.text, .string (s.extract x.from_.toNat x.to_.toNat), .int .i64 (x.from_ + g)] 79)
        obtain ⟨c0, c1, c2, c3, c4⟩ := chg_loop hnew
        have hsz := hbb.size
        clear q1 q2 q3 q4 q5 hx hy hnew
        generalize s.extract x.from_.toNat x.to_.toNat = o at d4 c0 c1 c2 c3 c4 HN
        go_wp2_with (at_builtin; refine wpList_append_own _ rfl _ _ 41 rfl w1.heap.size 40 i0 _ 3 32 Tryz.underlying41 hi hz0 hz1 hz2 rfl (by decide) _ _ _ rfl ((hrow.alloc _).alloc _) ⟨wr.heap.size + 1, 0, none⟩ 1 1 [.int .i64 (x.from_ + g), .int .i64 (x.from_ + g + x.text.size), .string o] rfl rfl (by have h := cells_new (wr.alloc (.cells #[.int .i64 x.from_, .int .i64 x.to_, .string x.text, .string o, .int .i64 (x.from_ + g)] 79)) 40 [.int .i64 (x.from_ + g), .int .i64 (x.from_ + g + x.text.size), .string o]; rw [World.size_alloc] at h; exact h) (by simp [Value.oneCell']) (by unfold maxLen; omega) (by omega) (by simp; omega) ?_; intro v' w3 hown' hgrow' _)
        have hbb3 : Below w1.heap.size w1 w3 := ((hbb.alloc hsz _).alloc (by simp; omega) _).grown hgrow' (by simp; omega) (fun k e => row_base hrow e)
        go_roundw
        case rel =>
          refine ⟨k + 1, g + grow1 s x, _, by omega, by go_num, ?_, ?_, Lib.hid ⟨?_, HN.out, HC.out⟩, by omega, by omega, hbb3⟩
          · rw [splCells_append, List.length_append]
            exact hown'
          · simp; omega
          · rw [List.length_append, HD.out.1]; rfl
        case measure => simp [intOf]; omega
      · have hkl : k = l.length := by omega
        have HN := Lib.hid (show backP s 0 l = done by rw [HD.out.2.1, List.drop_eq_nil_of_le (by omega)]; simp [backP])
        clear hkl
        go_wp2
        go_ret2
        rw [HR.out, HN.out]
        exact ⟨_, rfl, hb1.trans (hbb.mono hb1.size), splIn_of_own hrow⟩
  · have HE := Lib.hid he
    have heb : ((planAnyRes s l).2 != 0) = true := by simpa using he
    have HR := Lib.hid (show undoRes s l = ([], (planAnyRes s l).2) by unfold undoRes; rw [if_pos he])
    clear he
    go_enter Tryz.func10, Tryz.ntmps10
    go_wp2_with (go_at_call 28; refine (planAny_any s _ l _ hs hl HT.out HV.out).mono ?_; rintro e w1 ⟨v', rfl, hb1, hrow⟩; clear hrow)
    go_ret2
    rw [HR.out]
    exact ⟨_, rfl, hb1, ⟨none, 0, rfl, fun i x h => by simp at h⟩⟩
end Go.Proofs.YtjadjmkbjolklaaGreatDoor
