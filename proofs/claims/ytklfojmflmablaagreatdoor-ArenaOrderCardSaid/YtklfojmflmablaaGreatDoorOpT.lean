/- Three moves that come in. -/
import Derived.Test.YtklfojmflmablaaGreatDoorLf
import Derived.Test.YtklfojmflmablaaGreatDoorOs
namespace Go.Proofs.YtklfojmflmablaaGreatDoor
open Go.ChangeShapes Go.WideShapes Go.ChangeAt Go.RowKit

theorem cells72 : Tryz.prog.cellsOf 72 = 12 := by kernel_rfl
theorem cells40 : Tryz.prog.cellsOf 40 = 4 := by kernel_rfl
section
variable {H : Type} {enc : TypeId × Value → H} {W : World} {base : Nat} {sp : Nat → Bool} {held : Bool} {n : Nat}
set_option maxRecDepth 100000 in
theorem open_mv {cs : List Value} {x : DataW H × List MemPlace} (h : DataW.trod enc Tryz.prog W base sp held n 40 cs = some x) : ∃ m : Mv, cs = [.int .i64 m.id, .int .i64 m.arg, .int .u8 m.kind, .int .i64 m.n] := by
  obtain ⟨xs, k, _, _, hlen, hxl, hall⟩ := DataW.trod_struct Tryz.underlying40 h
  rw [cells40] at hlen
  have c3 : Tryz.prog.cellsOf 3 = 1 := by kernel_rfl
  have c5 : Tryz.prog.cellsOf 5 = 1 := by kernel_rfl
  match cs, hlen with
  | [a, b, c, e], _ =>
    have hxl2 : xs.length = 4 := hxl
    have h0 : DataW.trod enc Tryz.prog W base sp held k 3 (List.take (Tryz.prog.cellsOf 3) (List.drop 0 [a, b, c, e])) = xs[0]? := hall 0 _ rfl
    have h1 : DataW.trod enc Tryz.prog W base sp held k 3 (List.take (Tryz.prog.cellsOf 3) (List.drop 1 [a, b, c, e])) = xs[1]? := hall 1 _ rfl
    have h2 : DataW.trod enc Tryz.prog W base sp held k 5 (List.take (Tryz.prog.cellsOf 5) (List.drop 2 [a, b, c, e])) = xs[2]? := hall 2 _ rfl
    have h3 : DataW.trod enc Tryz.prog W base sp held k 3 (List.take (Tryz.prog.cellsOf 3) (List.drop 3 [a, b, c, e])) = xs[3]? := hall 3 _ rfl
    rw [c3, List.getElem?_eq_getElem (by omega)] at h0 h1 h3
    rw [c5, List.getElem?_eq_getElem (by omega)] at h2
    obtain ⟨x0, e0, _, _⟩ := DataW.trod_int Tryz.underlying3 h0
    obtain ⟨x1, e1, _, _⟩ := DataW.trod_int Tryz.underlying3 h1
    obtain ⟨x2, e2, _, _⟩ := DataW.trod_int Tryz.underlying5 h2
    obtain ⟨x3, e3, _, _⟩ := DataW.trod_int Tryz.underlying3 h3
    have e0' : [a] = [Value.int .i64 x0] := e0
    have e1' : [b] = [Value.int .i64 x1] := e1
    have e2' : [c] = [Value.int .u8 x2] := e2
    have e3' : [e] = [Value.int .i64 x3] := e3
    cases e0'
    cases e1'
    cases e2'
    cases e3'
    exact ⟨⟨x0, x1, x2, x3⟩, rfl⟩
set_option maxRecDepth 100000 in
/-- Three moves that come in. -/
theorem open_three {v : Value} {d : DataW H} {ps : List MemPlace} {r : Reach} {b0 : Nat} (hval : Value.okWide Tryz.prog W r b0 72 v) (hd : DataW.Trod enc Tryz.prog W base sp held 72 v d ps) : ∃ a b c : Mv, v = threeV a b c := by
  obtain ⟨cs, rfl, hcs⟩ := okWide_struct Tryz.underlying72 hval
  obtain ⟨fuel, hf⟩ := hd
  obtain ⟨xs, k, rfl, hx, hlen, hxl, hall⟩ := DataW.trod_struct Tryz.underlying72 hf
  have hl : cs.toList.length = 12 := by rw [cells72] at hcs; simpa using hcs
  obtain ⟨l⟩ := cs
  match l, hl with
  | [v0, v1, v2, v3, v4, v5, v6, v7, v8, v9, v10, v11], _ =>
    have hxl2 : xs.length = 3 := hxl
    have f0 : DataW.trod enc Tryz.prog W base sp held k 40 (List.take (Tryz.prog.cellsOf 40) (List.drop 0 [v0, v1, v2, v3, v4, v5, v6, v7, v8, v9, v10, v11])) = xs[0]? := hall 0 _ rfl
    have f1 : DataW.trod enc Tryz.prog W base sp held k 40 (List.take (Tryz.prog.cellsOf 40) (List.drop 4 [v0, v1, v2, v3, v4, v5, v6, v7, v8, v9, v10, v11])) = xs[1]? := hall 1 _ rfl
    have f2 : DataW.trod enc Tryz.prog W base sp held k 40 (List.take (Tryz.prog.cellsOf 40) (List.drop 8 [v0, v1, v2, v3, v4, v5, v6, v7, v8, v9, v10, v11])) = xs[2]? := hall 2 _ rfl
    rw [cells40, List.getElem?_eq_getElem (by omega)] at f0 f1 f2
    obtain ⟨a, e0⟩ := open_mv f0
    obtain ⟨b, e1⟩ := open_mv f1
    obtain ⟨c, e2⟩ := open_mv f2
    have e0' : [v0, v1, v2, v3] = [Value.int .i64 a.id, .int .i64 a.arg, .int .u8 a.kind, .int .i64 a.n] := e0
    have e1' : [v4, v5, v6, v7] = [Value.int .i64 b.id, .int .i64 b.arg, .int .u8 b.kind, .int .i64 b.n] := e1
    have e2' : [v8, v9, v10, v11] = [Value.int .i64 c.id, .int .i64 c.arg, .int .u8 c.kind, .int .i64 c.n] := e2
    cases e0'
    cases e1'
    cases e2'
    exact ⟨a, b, c, rfl⟩
end
end Go.Proofs.YtklfojmflmablaaGreatDoor
