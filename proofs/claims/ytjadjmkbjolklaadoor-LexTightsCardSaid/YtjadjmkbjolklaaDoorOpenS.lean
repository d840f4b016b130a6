/- Splices that come in. -/
import Derived.Test.YtjadjmkbjolklaaDoorLifted
import Derived.Test.YtjadjmkbjolklaaDoorBase
import Derived.Deep.Slices
namespace Go.Proofs.YtjadjmkbjolklaaDoor
open Go.ChangeShapes Go.WideShapes Go.ChangeAt Go.RowKit Go.Deep

theorem add_none (b off k : Nat) : Addr.add ⟨b, off, none⟩ k = ⟨b, off + k, none⟩ := by
  unfold Addr.add
  split
  · rename_i h
    simp_all
  · rfl

theorem cells56 : Tryd.prog.cellsOf 56 = 3 := by kernel_rfl
theorem cells3 : Tryd.prog.cellsOf 3 = 1 := by kernel_rfl
theorem bytes56 : Tryd.prog.bytesOf 56 = 32 := by kernel_rfl

instance : Inhabited Spl := ⟨⟨0, 0, ⟨#[]⟩⟩⟩

def Spl.datum {H : Type} (x : Spl) : DataW H := .agg [.lit (.int .i64 x.from_), .lit (.int .i64 x.to_), .lit (.string x.text.data.toList)]

section
variable {H : Type} {enc : TypeId × Value → H}

theorem weights_all {l : List Spl} {x : Spl} (hx : x ∈ l) : x.text.data.toList.length ∈ DataW.weightsAll Tryd.prog 56 (l.map fun x => (x.datum : DataW H)) := by
  induction l with
  | nil => cases hx
  | cons y r ih =>
    rw [List.map_cons, DataW.weightsAll, List.mem_append]
    cases hx with
    | head =>
      left
      unfold Spl.datum
      simp [DataW.weights, Tryd.underlying56, DataW.weightsEach]
    | tail _ h => exact .inr (ih h)

set_option maxRecDepth 100000 in
/-- Splices that come in: what the slice holds, and what they weigh. -/
theorem open_spls {r : Reach} {W : World} {b0 base : Nat} {sp : Nat → Bool} {held : Bool} {v : Value} {d : DataW H} {ps : List MemPlace} (hval : Value.okWide Tryd.prog W r b0 45 v) (hd : DataW.Trod enc Tryd.prog W base sp held 45 v d ps) :
    ∃ l : List Spl, (v = .slice none 0 0 ∨ ∃ ad n c, v = .slice (some ad) n c) ∧ SplIn W W.heap.size v l ∧ (∀ x ∈ l, x.text.data.toList.length ∈ d.weights Tryd.prog 45) ∧ (l = [] ∨ ∃ n ∈ d.weights Tryd.prog 45, l.length * 32 ≤ n) ∧ (∀ x ∈ l, (Lit.int .i64 x.from_).wf = true ∧ (Lit.int .i64 x.to_).wf = true) := by
  have hval0 := hval
  obtain ⟨a0, len0, cap0, rfl⟩ := okWide_slice Tryd.underlying45 hval
  obtain ⟨fuel, hf0⟩ := hd
  have hf : DataW.trod enc Tryd.prog W base sp held fuel 45 [.slice a0 len0 cap0] = some (d, ps) := hf0
  rcases open_slice Tryd.underlying45 hf with ⟨h1, h2⟩ | ⟨a, len, cap, m, n, D, Pl, h1, hb, hl, hm, hmm, h2, hx⟩
  · cases h1
    cases h2
    exact ⟨[], .inl rfl, ⟨none, 0, rfl, (fun i x h => by simp at h)⟩, (fun x h => by cases h), .inl rfl, (fun x h => by cases h)⟩
  · cases h1
    cases h2
    have hspot : a.spot = none := by
      simp only [Value.okWide, Tryd.underlying45, Cell.okWide, Cell.ok] at hval0
      exact hval0.2.2.2.1
    obtain ⟨b, off, spot⟩ := a
    cases hspot
    rw [cells56] at hx
    have hlm : len0 ≤ m := by rw [hmm]; split <;> omega
    have each : ∀ i, i < m → ∃ x : Spl, W.cell? ⟨b, off + i * 3, none⟩ = some (.int .i64 x.from_) ∧ W.cell? ⟨b, off + i * 3 + 1, none⟩ = some (.int .i64 x.to_) ∧ W.cell? ⟨b, off + i * 3 + 2, none⟩ = some (.string x.text) ∧ D i = x.datum ∧ (Lit.int .i64 x.from_).wf = true ∧ (Lit.int .i64 x.to_).wf = true := by
      intro i hi
      obtain ⟨cs', g1, g2⟩ := hx i hi
      obtain ⟨_, hlen, hcell⟩ := World.cells?_some g1
      obtain ⟨xs, k, _, hxy, _, hxl, hall⟩ := DataW.trod_struct Tryd.underlying56 g2
      match cs', hlen with
      | [v0, v1, v2], _ =>
        have hxl3 : xs.length = 3 := hxl
        have f0 : DataW.trod enc Tryd.prog W base sp held k 3 (List.take (Tryd.prog.cellsOf 3) (List.drop 0 [v0, v1, v2])) = xs[0]? := hall 0 _ rfl
        have f1 : DataW.trod enc Tryd.prog W base sp held k 3 (List.take (Tryd.prog.cellsOf 3) (List.drop 1 [v0, v1, v2])) = xs[1]? := hall 1 _ rfl
        have f2 : DataW.trod enc Tryd.prog W base sp held k 9 (List.take (Tryd.prog.cellsOf 9) (List.drop 2 [v0, v1, v2])) = xs[2]? := hall 2 _ rfl
        rw [cells3, List.getElem?_eq_getElem (by omega)] at f0 f1
        rw [cells9, List.getElem?_eq_getElem (by omega)] at f2
        obtain ⟨x, e0, y0, w0⟩ := DataW.trod_int Tryd.underlying3 f0
        obtain ⟨y, e1, y1, w1⟩ := DataW.trod_int Tryd.underlying3 f1
        obtain ⟨s, e2, y2, w2⟩ := DataW.trod_string Tryd.underlying9 f2
        have e0' : [v0] = [Value.int .i64 x] := e0
        have e1' : [v1] = [Value.int .i64 y] := e1
        have e2' : [v2] = [Value.string s] := e2
        cases e0'
        cases e1'
        cases e2'
        have c0 := hcell 0 (by omega)
        have c1 := hcell 1 (by omega)
        have c2 := hcell 2 (by omega)
        rw [add_none, add_none] at c0 c1 c2
        refine ⟨⟨x, y, s⟩, by simpa using c0, by simpa [Nat.add_assoc] using c1, by simpa [Nat.add_assoc] using c2, ?_, w0, w1⟩
        match xs, hxl3 with
        | [p0, p1, p2], _ =>
          have y0' : p0 = _ := y0
          have y1' : p1 = _ := y1
          have y2' : p2 = _ := y2
          subst y0' y1' y2'
          exact (Prod.mk.inj hxy).1
    obtain ⟨q, hq⟩ := choose_lt each
    have hD : (List.range len0).map D = ((List.range len0).map q).map (fun x => (x.datum : DataW H)) := by
      rw [List.map_map]
      exact List.map_congr_left fun i hi => (hq i (by have := List.mem_range.1 hi; omega)).2.2.2.1
    rw [hD]
    refine ⟨(List.range len0).map q, .inr ⟨_, _, _, rfl⟩, ⟨some ⟨b, off, none⟩, cap0, by simp, fun i x hxi => ?_⟩, fun x hx' => ?_, .inr ⟨(len0 + (m - len0)) * 32, ?_, ?_⟩, fun x hx' => ?_⟩
    · rw [List.getElem?_map, Option.map_eq_some_iff] at hxi
      obtain ⟨j, hj, rfl⟩ := hxi
      obtain ⟨hj1, hj2⟩ := List.getElem?_eq_some_iff.1 hj
      simp only [List.length_range] at hj1
      simp only [List.getElem_range] at hj2
      subst hj2
      obtain ⟨c0, c1, c2, _⟩ := hq i (by omega)
      refine ⟨b, off, rfl, ?_, c0, c1, c2⟩
      rcases Nat.lt_or_ge b W.heap.size with h | h
      · exact h
      · unfold World.cell? at c0
        simp [Array.getElem?_eq_none h] at c0
    · rw [DataW.weights]
      simp only [Tryd.underlying45]
      exact List.mem_cons_of_mem _ (List.mem_append_left _ (weights_all hx'))
    · rw [DataW.weights]
      simp only [Tryd.underlying45]
      refine List.mem_cons.2 (.inl ?_)
      simp [bytes56]
    · simp only [List.length_map, List.length_range]
      omega
    · obtain ⟨i, hi, rfl⟩ := List.mem_map.1 hx'
      exact (hq i (by have := List.mem_range.1 hi; omega)).2.2.2.2
end
end Go.Proofs.YtjadjmkbjolklaaDoor
