/- The contracts of lex.textAfter, Apply. -/
import Derived.Test.YtjadjmkbjolklaaDoorLexL
namespace Go.Proofs.YtjadjmkbjolklaaDoor
open Go.RowKit

/-- The text after changes, from a place on. -/
def afterB (s : ByteArray) : Nat → List Chg → List UInt8
  | f, [] => s.data.toList.drop f
  | f, x :: r => (s.data.toList.drop f).take (x.from_.toNat - f) ++ (x.text.data.toList ++ afterB s x.to_.toNat r)

/-- Changes lie within a text of n bytes, one behind the other. -/
def chOrd (n : Nat) : Nat → List Chg → Prop
  | f, [] => f ≤ n
  | f, x :: r => (f : Int) ≤ x.from_ ∧ x.from_ ≤ x.to_ ∧ x.to_ ≤ n ∧ chOrd n x.to_.toNat r

theorem afterB_step (s : ByteArray) (f : Nat) (l : List Chg) (k : Nat) (x : Chg) (h : l[k]? = some x) :
    afterB s f (l.drop k) = (s.data.toList.drop f).take (x.from_.toNat - f) ++ (x.text.data.toList ++ afterB s x.to_.toNat (l.drop (k + 1))) := by
  obtain ⟨hk, rfl⟩ := List.getElem?_eq_some_iff.1 h
  rw [List.drop_eq_getElem_cons hk, afterB]

theorem chOrd_step (n : Nat) (f : Nat) (l : List Chg) (k : Nat) (x : Chg) (h : l[k]? = some x) :
    chOrd n f (l.drop k) = ((f : Int) ≤ x.from_ ∧ x.from_ ≤ x.to_ ∧ x.to_ ≤ n ∧ chOrd n x.to_.toNat (l.drop (k + 1))) := by
  obtain ⟨hk, rfl⟩ := List.getElem?_eq_some_iff.1 h
  rw [List.drop_eq_getElem_cons hk, chOrd]

theorem ChgIn.below {W W' : World} {B : Nat} {v : Value} {l : List Chg} (h : ChgIn W B v l) (hb : Below B W W') : ChgIn W' B v l := by
  obtain ⟨A, c, rfl, hA⟩ := h
  refine ⟨A, c, rfl, fun i x hx => ?_⟩
  obtain ⟨b, off, rfl, hB, h1, h2, h3, h4, h5⟩ := hA i x hx
  exact ⟨b, off, rfl, hB, (hb.cell (p := ⟨b, _, none⟩) hB).trans h1, (hb.cell (p := ⟨b, _, none⟩) hB).trans h2, (hb.cell (p := ⟨b, _, none⟩) hB).trans h3, (hb.cell (p := ⟨b, _, none⟩) hB).trans h4, (hb.cell (p := ⟨b, _, none⟩) hB).trans h5⟩

theorem builder_new (w : World) : Lib.IsBuilderF 82 5 w.heap.size w.heap.size (Lib.byteCells []) (w.alloc (.cells #[.pointer none, .slice none 0 0] 82)) :=
  Lib.IsBuilderF.of (Lib.fresh_isBuilder 82 5 w)

theorem afterB_round {s : ByteArray} {l : List Chg} {done : List UInt8} {f k : Nat} {x : Chg} (hl : (afterB s 0 l).length ≤ 140737488355328) (hd : afterB s 0 l = done ++ afterB s f (l.drop k)) (hx : l[k]? = some x) :
    done.length + ((s.data.toList.drop f).take (x.from_.toNat - f)).length ≤ 140737488355328 ∧ done.length + ((s.data.toList.drop f).take (x.from_.toNat - f)).length + x.text.size ≤ 140737488355328 := by
  rw [hd, afterB_step s f l k x hx] at hl
  simp only [List.length_append] at hl
  have : x.text.data.toList.length = x.text.size := by simp
  omega

theorem copy_kept {W w2 : World} {g b : Nat} {c0 c1 c2 c3 c4 : Value} (h : W.heap[g]? = some (.cells #[c0, c1, c2, c3, c4] 102 (0, 0))) (hk : Lib.OthersKept 5 (some b) W w2) (hne : g ≠ b) :
    w2.cell? ⟨g, 0, none⟩ = some c0 ∧ w2.cell? ⟨g, 1, none⟩ = some c1 ∧ w2.cell? ⟨g, 2, none⟩ = some c2 ∧ w2.cell? ⟨g, 3, none⟩ = some c3 ∧ w2.cell? ⟨g, 4, none⟩ = some c4 ∧ w2.heap[g]? = some (.cells #[c0, c1, c2, c3, c4] 102 (0, 0)) := by
  have h2 := hk g _ h (by simpa using hne) (fun c fz e => by injection e with _ e; cases e)
  exact ⟨cell_of_row w2 _ 0 _ 102 (0, 0) h2, cell_of_row w2 _ 1 _ 102 (0, 0) h2, cell_of_row w2 _ 2 _ 102 (0, 0) h2, cell_of_row w2 _ 3 _ 102 (0, 0) h2, cell_of_row w2 _ 4 _ 102 (0, 0) h2, h2⟩

set_option maxRecDepth 100000 in
set_option maxHeartbeats 2000000 in
theorem textAfter_any (s : ByteArray) (v : Value) (l : List Chg) (w : World) (hs : s.size ≤ 140737488355328) (hl : l.length ≤ 140737488355328) (ho : chOrd s.size 0 l) (hlen : (afterB s 0 l).length ≤ 140737488355328) (hv : ChgIn w w.heap.size v l) :
    Calls Tryd.prog 69 #[.string s, v] w fun e w' => e = .returned (.string ⟨(afterB s 0 l).toArray⟩) ∧ Below w.heap.size w w' := by
  have HV := Lib.hid hv
  have HO := Lib.hid ho
  have HL := Lib.hid hlen
  obtain ⟨A, c, rfl, hA⟩ := hv
  have HA := Lib.hid hA
  clear hA ho hlen
  have hbn := builder_new w
  go_enter Tryd.func69, Tryd.ntmps69
  go_wp2_with fail
  go_loopw [6, 11] (fun fr i wr => ∃ (k f : Nat) (done : List UInt8), k ≤ l.length ∧ i = .int .i64 k ∧ fr = .int .i64 f ∧ Lib.IsBuilderF 82 5 w.heap.size w.heap.size (Lib.byteCells done) wr ∧ w.heap.size < wr.heap.size ∧
      Hid (afterB s 0 l = done ++ afterB s f (l.drop k) ∧ chOrd s.size f (l.drop k)) ∧ f ≤ s.size ∧ Below w.heap.size w wr) (fun _ i _ => l.length - (intOf i).toNat)
  case atStart => exact ⟨0, 0, [], by omega, rfl, rfl, hbn, by simp, Lib.hid ⟨rfl, HO.out⟩, by omega, (Below.refl _ _).alloc (Nat.le_refl _) _⟩
  case round =>
    obtain ⟨k, f, done, hk, rfl, rfl, hbd, hbs, HD, hf, hb⟩ := hrel
    have hsz := hb.size
    clear hbn
    by_cases hlt : k < l.length
    · obtain ⟨x, hx⟩ : ∃ x, l[k]? = some x := ⟨_, List.getElem?_eq_getElem hlt⟩
      obtain ⟨b, off, rfl, hB, h1, h2, h3, h4, h5⟩ := HA.out k x hx
      have HX := Lib.hid hx
      have d1 := (hb.cell (p := ⟨b, _, none⟩) hB).trans h1
      have d2 := (hb.cell (p := ⟨b, _, none⟩) hB).trans h2
      have d3 := (hb.cell (p := ⟨b, _, none⟩) hB).trans h3
      have d4 := (hb.cell (p := ⟨b, _, none⟩) hB).trans h4
      have d5 := (hb.cell (p := ⟨b, _, none⟩) hB).trans h5
      have hord := HD.out.2
      rw [chOrd_step s.size f l k x hx] at hord
      obtain ⟨o1, o2, o3, o4⟩ := hord
      have HO4 := Lib.hid o4
      clear h1 h2 h3 h4 h5 hx o4
      have HL2 := afterB_round HL.out HD.out.1 HX.out
      have hx5 := Lib.hid (show ((s.data.toList.drop f).take (x.from_.toNat - f)) = (s.extract f x.from_.toNat).data.toList by simp)
      go_wp2_with fail
      refine (writeString_any w.heap.size w.heap.size (Lib.byteCells done) _ _ (hbd.alloc _) (by rw [Lib.byteCells_length]; have := HL2.1; simp at this ⊢; omega) (by simp; omega)).mono ?_
      rintro e w2 ⟨rfl, hbd2, hb2, hk2⟩
      obtain ⟨q0, q1, q2, q3, q4, hg2⟩ := copy_kept (World.alloc_heap_new wr _) hk2 (by omega)
      clear d1 d2 d3 d4 d5
      have hB2 := (hb.alloc hsz _).trans hb2
      have hsz2 := hB2.size
      have hs2 := hb2.size
      rw [Lib.strCells_eq, ← Lib.byteCells_append, ← hx5.out] at hbd2
      simp only [World.size_alloc] at hs2
      clear hb2 hk2 hbd
      go_wp2_with fail
      refine (writeString_any w.heap.size w.heap.size _ _ _ (.inr hbd2) (by rw [Lib.byteCells_length, List.length_append]; exact HL2.2) hsz2).mono ?_
      rintro e w3 ⟨rfl, hbd3, hb3, hk3⟩
      obtain ⟨r0, r1, r2, r3, r4, hg3⟩ := copy_kept hg2 hk3 (by omega)
      have hB3 := hB2.trans hb3
      have hs3 := hb3.size
      rw [Lib.strCells_eq, ← Lib.byteCells_append] at hbd3
      clear q0 q1 q2 q3 q4 hg2 hbd2 hk3 hb3 hg3
      go_wp2_with fail
      go_roundw
      case rel =>
        refine ⟨k + 1, x.to_.toNat, _, by omega, by go_num, ?_, .inr hbd3, by omega, Lib.hid ⟨?_, HO4.out⟩, by omega, hB3⟩
        · rw [Int.toNat_of_nonneg (by omega)]
        · rw [HD.out.1, afterB_step s f l k x HX.out]
          simp
      case measure => simp [intOf]; omega
    · have h1 := HD.out.1
      rw [List.drop_eq_nil_of_le (by omega), afterB] at h1
      have H1 := Lib.hid h1
      have HB := HL.out
      rw [h1, List.length_append] at HB
      clear h1
      go_wp2_with fail
      refine (writeString_any w.heap.size w.heap.size (Lib.byteCells done) _ _ hbd (by rw [Lib.byteCells_length]; simp at HB ⊢; omega) hsz).mono ?_
      rintro e w2 ⟨rfl, hbd2, hb2, hk2⟩
      have hx5 := Lib.hid (show s.data.toList.drop f = (s.extract f s.size).data.toList by simp [List.take_of_length_le])
      rw [Lib.strCells_eq, ← Lib.byteCells_append, ← hx5.out, ← H1.out] at hbd2
      have hB2 := hb.trans hb2
      have hsz2 := hB2.size
      clear hb2 hk2 hbd HB
      go_wp2_with fail
      refine (Tryd.Builder_String_any_k w.heap.size w.heap.size _ _ (.inr hbd2) hsz2).mono ?_
      rintro e w3 ⟨rfl, _, hb3, _⟩
      go_wp2_with fail
      go_ret
      exact ⟨rfl, hB2.trans hb3⟩
end Go.Proofs.YtjadjmkbjolklaaDoor
