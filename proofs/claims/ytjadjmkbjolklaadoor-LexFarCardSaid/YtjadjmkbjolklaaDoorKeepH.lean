/- LexKeeps, whole: the reference's Kept put together; a splice that comes in. -/
import Derived.Test.YtjadjmkbjolklaaDoorKeepG
import Derived.Test.YtjadjmkbjolklaaDoorOpenS
namespace Go.Proofs.YtjadjmkbjolklaaDoor
open Go.ChangeShapes Go.WideShapes Go.ChangeAt Go.RowKit Go.Deep

theorem refKept_any (s : ByteArray) (x : Spl) (w : World) (hs : s.size ≤ 140737488355328) (hx : x.text.size ≤ 140737488355328) :
    Calls Tryd.prog 44 #[.string s, .agg #[.int .i64 x.from_, .int .i64 x.to_, .string x.text]] w fun e w' => e = .returned (.tuple #[.int .i64 (keptRes s x).1, .int .i64 (keptRes s x).2.1, .int .i64 (keptRes s x).2.2]) ∧ Below w.heap.size w w' := by
  by_cases h : (applyRes s [x]).2 = 0 ∧ (lexTokens s).2.2 = 0 ∧ (lexTokens ⟨(applyRes s [x]).1.toArray⟩).2.2 = 0
  · exact refKept_full s x w hs hx h.1 h.2.1 h.2.2
  · exact refKept_early s x w hs hx h

theorem keeps_any (s : ByteArray) (x : Spl) (w : World) (hs : s.size ≤ 140737488355328) (hx : x.text.size ≤ 140737488355328) (hn : NumVars w) :
    Calls Tryd.prog 8 #[.string s, .agg #[.int .i64 x.from_, .int .i64 x.to_, .string x.text]] w fun e w' => e = .returned (.bool true) ∧ Below w.heap.size w w' :=
  keeps_of s x w hs hx hn fun w' _ => refKept_any s x w' hs hx

section
variable {H : Type} {enc : TypeId × Value → H}

set_option maxRecDepth 100000 in
/-- A splice that comes in. -/
theorem open_spl {r : Reach} {W : World} {b0 base : Nat} {sp : Nat → Bool} {held : Bool} {v : Value} {d : DataW H} {ps : List MemPlace} (hval : Value.okWide Tryd.prog W r b0 56 v) (hd : DataW.Trod enc Tryd.prog W base sp held 56 v d ps) :
    ∃ x : Spl, v = .agg #[.int .i64 x.from_, .int .i64 x.to_, .string x.text] ∧ x.text.data.toList.length ∈ d.weights Tryd.prog 56 ∧ (Lit.int .i64 x.from_).wf = true ∧ (Lit.int .i64 x.to_).wf = true := by
  obtain ⟨cs, rfl, hcs⟩ := okWide_struct Tryd.underlying56 hval
  obtain ⟨fuel, hf⟩ := hd
  obtain ⟨xs, n, rfl, hxy, hlen, hxl, hall⟩ := DataW.trod_struct Tryd.underlying56 hf
  have hl : cs.toList.length = 3 := by rw [cells56] at hcs; simpa using hcs
  obtain ⟨l⟩ := cs
  match l, hl with
  | [v0, v1, v2], _ =>
    have hxl3 : xs.length = 3 := hxl
    have f0 : DataW.trod enc Tryd.prog W base sp held n 3 (List.take (Tryd.prog.cellsOf 3) (List.drop 0 [v0, v1, v2])) = xs[0]? := hall 0 _ rfl
    have f1 : DataW.trod enc Tryd.prog W base sp held n 3 (List.take (Tryd.prog.cellsOf 3) (List.drop 1 [v0, v1, v2])) = xs[1]? := hall 1 _ rfl
    have f2 : DataW.trod enc Tryd.prog W base sp held n 9 (List.take (Tryd.prog.cellsOf 9) (List.drop 2 [v0, v1, v2])) = xs[2]? := hall 2 _ rfl
    rw [cells3, List.getElem?_eq_getElem (by omega)] at f0 f1
    rw [cells9, List.getElem?_eq_getElem (by omega)] at f2
    obtain ⟨x, e0, y0, w0⟩ := DataW.trod_int Tryd.underlying3 f0
    obtain ⟨y, e1, y1, w1⟩ := DataW.trod_int Tryd.underlying3 f1
    obtain ⟨s, e2, y2, w2⟩ := DataW.trod_string Tryd.underlying9 f2
    have e0' : [v0] = [Value.int .i64 x] := e0
    have e1' : [v1] = [Value.int .i64 y] := e1
    have e2' : [v2] = [Value.string s] := e2
    cases e0'
    cases e1'
    cases e2'
    refine ⟨⟨x, y, s⟩, rfl, ?_, w0, w1⟩
    match xs, hxl3 with
    | [p0, p1, p2], _ =>
      have y0' : p0 = _ := y0
      have y1' : p1 = _ := y1
      have y2' : p2 = _ := y2
      subst y0' y1' y2'
      have hd' : d = (⟨x, y, s⟩ : Spl).datum := (Prod.mk.inj hxy).1
      rw [hd']
      unfold Spl.datum
      simp [DataW.weights, Tryd.underlying56, DataW.weightsEach]
end
end Go.Proofs.YtjadjmkbjolklaaDoor
