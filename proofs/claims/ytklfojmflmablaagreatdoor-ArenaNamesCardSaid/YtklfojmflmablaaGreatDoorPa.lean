/- Package arena: the contract of Parse. -/
import Derived.Maps.RangeWalk
import Derived.Test.YtklfojmflmablaaGreatDoorRd
namespace Go.Proofs.YtklfojmflmablaaGreatDoor
open Go Go.RowKit Go.Shelf

theorem sg_mem {x : MapEntry} (h : x ∈ (sgArr 3).toList) : x = ⟨.int .u8 1, .string ⟨#[63]⟩, 0⟩ ∨ x = ⟨.int .u8 2, .string ⟨#[61]⟩, 1⟩ ∨ x = ⟨.int .u8 3, .string ⟨#[33]⟩, 2⟩ := by
  have e : (sgArr 3).toList = [⟨.int .u8 1, .string ⟨#[63]⟩, 0⟩, ⟨.int .u8 2, .string ⟨#[61]⟩, 1⟩, ⟨.int .u8 3, .string ⟨#[33]⟩, 2⟩] := by kernel_rfl
  rw [e] at h
  simpa using h
theorem sg_old : ∀ x ∈ (sgArr 3).toList, x.born < 3 := fun x hx => by
  rcases sg_mem hx with rfl | rfl | rfl <;> decide

open Go.ChangeMaps Go.MapKept in
theorem sg_step {wr : World} {b r : Nat} {seen : Array Nat} (hM : SgMap wr b) (hI : wr.heap[r]? = some (.mapIter (some b) 3 seen 3)) :
    ((∀ i, i < 3 → seen.contains i = true) ∧ (Instr.next (.pointer (some ⟨r, 0, none⟩)) false 0).run Tryz.prog wr = .ok (.tuple #[.bool false]) wr) ∨
    ∃ (i : Nat) (w2 : World), i < 3 ∧ (Instr.next (.pointer (some ⟨r, 0, none⟩)) false 0).run Tryz.prog wr = .ok (.tuple #[.bool true, .int .u8 ((i : Int) + 1), .string ((signOf ((i : Int) + 1)).getD ⟨#[]⟩)]) w2 ∧
      (Instr.entry (.pointer (some ⟨r, 0, none⟩))).run Tryz.prog w2 = .ok (.tuple #[.int .u8 ((i : Int) + 1), .string ((signOf ((i : Int) + 1)).getD ⟨#[]⟩)]) w2 ∧
      SgMap w2 b ∧ w2.heap[r]? = some (.mapIter (some b) 3 (seen.push i) 3) ∧ Only (fun k => k = r) wr w2 ∧ w2.rangeLeft b r < wr.rangeLeft b r := by
  have hne : b ≠ r := by
    rintro rfl
    rw [show wr.heap[b]? = _ from hM] at hI
    cases hI
  rcases run_next_at (P := Tryz.prog) wr 0 r b 3 3 seen (sgArr 3) 3 hI hM sg_old (Nat.le_refl _) with ⟨h0, hrun⟩ | ⟨e, he, wd, hal, hrun⟩
  · refine .inl ⟨fun i hi => ?_, hrun⟩
    have hx := all_seen (sgArr 3) seen h0
    match i, hi with
    | 0, _ => exact hx ⟨.int .u8 1, .string ⟨#[63]⟩, 0⟩ (by simp [sgArr])
    | 1, _ => exact hx ⟨.int .u8 2, .string ⟨#[61]⟩, 1⟩ (by simp [sgArr])
    | 2, _ => exact hx ⟨.int .u8 3, .string ⟨#[33]⟩, 2⟩ (by simp [sgArr])
  · obtain ⟨hem, hes⟩ := mem_left he
    have hI1 : wd.heap[r]? = some (.mapIter (some b) 3 seen 3) := by rcases hal with rfl | rfl <;> exact hI
    have hM1 : wd.heap[b]? = some (.map (sgArr 3) 3) := by rcases hal with rfl | rfl <;> exact hM
    have hset := heap_set (o' := .mapIter (some b) 3 (seen.push e.born) 3) hI1
    have hI2 : (setBlock wd r (.mapIter (some b) 3 (seen.push e.born) 3)).heap[r]? = _ := hset.1
    have hM2 : (setBlock wd r (.mapIter (some b) 3 (seen.push e.born) 3)).heap[b]? = some (.map (sgArr 3) 3) := (hset.2 b hne).trans hM1
    have hen := run_entry_at (P := Tryz.prog) (setBlock wd r (.mapIter (some b) 3 (seen.push e.born) 3)) r b 3 seen (sgArr 3) 3 e hI2 hM2 hem (by decide)
    have hon : Only (fun k => k = r) wr (setBlock wd r (.mapIter (some b) 3 (seen.push e.born) 3)) := by
      rcases hal with rfl | rfl <;> exact ⟨rfl, rfl, rfl, by simp [setBlock], fun k hk hn => hset.2 k hn⟩
    have hms : (setBlock wd r (.mapIter (some b) 3 (seen.push e.born) 3)).rangeLeft b r < wr.rangeLeft b r := by
      simp only [World.rangeLeft, hM2, hI2, show wr.heap[b]? = _ from hM, hI]
      exact left_shrinks _ _ e he
    rcases sg_mem hem with rfl | rfl | rfl
    · exact .inr ⟨0, _, by omega, hrun, hen, hM2, hI2, hon, hms⟩
    · exact .inr ⟨1, _, by omega, hrun, hen, hM2, hI2, hon, hms⟩
    · exact .inr ⟨2, _, by omega, hrun, hen, hM2, hI2, hon, hms⟩

/-- The kind that stands at place i of the signs. -/
def kindMv (s : ByteArray) (i : Nat) : Mv := readRes s ((signOf ((i : Int) + 1)).getD ⟨#[]⟩) ((i : Int) + 1)
def okB (tx : Int → ByteArray) (s : ByteArray) (i : Nat) : Bool := (textRes tx (kindMv s i)).2 == 0 && (textRes tx (kindMv s i)).1.toList == s.toList

/-- All that is asked of a text at a sign. -/
structure Fits (tx : Int → ByteArray) (w : World) (s : ByteArray) (i : Nat) : Prop where
  read : ∀ W, Below w.heap.size w W → Calls Tryz.prog 111 #[.string s, .string ((signOf ((i : Int) + 1)).getD ⟨#[]⟩), .int .u8 ((i : Int) + 1)] W fun e w' => e = .returned (mvV (kindMv s i)) ∧ Below W.heap.size W w'
  text : ∀ W, Below w.heap.size w W → Calls Tryz.prog 42 #[mvV (kindMv s i)] W fun e w' => e = .returned (.tuple #[.string (textRes tx (kindMv s i)).1, .int .i64 (textRes tx (kindMv s i)).2]) ∧ Below W.heap.size W w'

theorem results_parse {tmps : Array Value} {W : World} {B : Nat} {m : Mv} {e : Int} (h : BoxM W B m) (t2 : tmps[2]?.getD undef = .pointer (some ⟨B, 0, none⟩)) (t3 : tmps[3]?.getD undef = .int .i64 e) :
    (results Tryz.f43 tmps).run Tryz.prog W = .ok (.tuple #[mvV m, .int .i64 e]) W := by
  have c0 := h.c0
  have c1 := h.c1
  have c2 := h.c2
  have c3 := h.c3
  simp [results, Tryz.results43, t2, t3, go_sem, loadVar, c0, c1, c2, c3, mvV]

set_option maxRecDepth 100000 in
set_option maxHeartbeats 1000000 in
theorem parse_any (tx : Int → ByteArray) (s : ByteArray) (w : World) (R : Mv × Int) (hf : ∀ i, i < 3 → Fits tx w s i) (hR : ∀ i, i < 3 → okB tx s i = true → R = (kindMv s i, 0)) (hN : (∀ i, i < 3 → okB tx s i = false) → R = (⟨0, 0, 0, 0⟩, 4)) :
    Calls Tryz.prog 43 #[.string s] w fun e w' => e = .returned (.tuple #[mvV R.1, .int .i64 R.2]) ∧ Below w.heap.size w w' := by
  have HF := Lib.hid hf
  have HR := Lib.hid hR
  have HN := Lib.hid hN
  clear hf hR hN
  obtain ⟨w1, hw1⟩ : ∃ w1, w.alloc (.cells #[.int .i64 0, .int .i64 0, .int .u8 0, .int .i64 0] 40) = w1 := ⟨_, rfl⟩
  have hb : Below w.heap.size w w1 := by rw [← hw1]; exact (Below.refl _ w).alloc (Nat.le_refl _) _
  have x0 : BoxM w1 w.heap.size ⟨0, 0, 0, 0⟩ := by rw [← hw1]; exact BoxM.new w ⟨0, 0, 0, 0⟩
  have hs1 : w1.heap.size = w.heap.size + 1 := by rw [← hw1]; simp
  have HB := Lib.hid hb
  have HX := Lib.hid x0
  have HS := Lib.hid hs1
  have hrg : ∀ W b, SgMap W b → (Instr.range 140 (.map (some b))).run Tryz.prog W = .ok (.pointer (some ⟨W.heap.size, 0, none⟩)) (W.alloc (.mapIter (some b) 3 #[] 3)) := fun W b h => run_range_map W 140 5 9 b (sgArr 3) 3 Tryz.underlying140 h
  have HRG := Lib.hid hrg
  clear hb x0 hs1 hrg
  go_enter Tryz.func43, Tryz.ntmps43
  go_wp2_with (go_at_call 107; refine (signs_any _).mono ?_; rintro e w2 ⟨rfl, rfl⟩; have hrg1 := HRG.out _ _ (SgMap.new w1))
  go_loopw [11] (fun _ wr => ∃ seen : Array Nat, Hid (SgMap wr w1.heap.size) ∧ Hid (wr.heap[w1.heap.size + 1]? = some (.mapIter (some w1.heap.size) 3 seen 3)) ∧ Hid (∀ i, i < 3 → seen.contains i = true → okB tx s i = false) ∧ Hid (Below w1.heap.size w1 wr)) (fun _ wr => wr.rangeLeft w1.heap.size (w1.heap.size + 1))
  case atStart => exact ⟨#[], Lib.hid ((Below.heap_alloc _ _ _ (by simp)).trans (SgMap.new w1)), Lib.hid (by have := World.alloc_heap_new (w1.alloc (.map (sgArr 3) 3)) (.mapIter (some w1.heap.size) 3 #[] 3); rwa [World.size_alloc] at this), Lib.hid (by simp), Lib.hid (((Below.refl _ w1).alloc (Nat.le_refl _) _).alloc (by simp) _)⟩
  case round =>
    obtain ⟨seen, hM, hI, hS, hW⟩ := hrel
    rcases sg_step hM.out hI.out with ⟨hall, hrun⟩ | ⟨i, w2, hi3, hrun, hent, hM2, hI2, hon, hms⟩
    · have hRR := HN.out (fun i hi => hS.out i hi (hall i hi))
      have xr : BoxM wr w.heap.size ⟨0, 0, 0, 0⟩ := (hW.out.block _ HX.out.lt).trans HX.out
      obtain ⟨y1, y2, y3, y4, e1, e2, e3, e4, s0, f0, s1, f1, s2, f2, s3, f3, z4, o4⟩ := chain40 xr ⟨0, 0, 0, 0⟩
      dsimp only at s1 s2 s3 e1 e2 e3 e4
      subst hRR
      clear hall
      go_wp2
      refine bodyPost_ret (results_parse (e := 4) z4 (by simp) (by simp)) rfl ?_
      have h0r := HB.out.trans (hW.out.mono HB.out.size)
      exact ⟨rfl, h0r.trans (o4.below _ h0r.size (fun b hb h => by omega))⟩
    · have hF := HF.out i hi3
      have HRR := Lib.hid (HR.out i hi3)
      have CR := Lib.hid hF.read
      have CT := Lib.hid hF.text
      have HOK : Hid (okB tx s i = ((textRes tx (kindMv s i)).2 == 0 && (textRes tx (kindMv s i)).1.toList == s.toList)) := Lib.hid rfl
      obtain ⟨M, eM⟩ : ∃ M, kindMv s i = M := ⟨_, rfl⟩
      rw [eM] at CR CT HRR HOK
      obtain ⟨XE, eX⟩ : ∃ XE, textRes tx M = XE := ⟨_, rfl⟩
      rw [eX] at CT HOK
      obtain ⟨K, eK⟩ : ∃ K, (i : Int) + 1 = K := ⟨_, rfl⟩
      obtain ⟨SG, eS⟩ : ∃ SG, (signOf ((i : Int) + 1)).getD ⟨#[]⟩ = SG := ⟨_, rfl⟩
      rw [eS, eK] at hrun hent CR
      obtain ⟨id, arg, kind, n⟩ := M
      obtain ⟨X, E⟩ := XE
      unfold mvV at CR CT
      dsimp only at CR CT HOK
      have hlt : w1.heap.size < w1.heap.size + 1 := by omega
      have hwr := hW.out.size
      have h12 : Below w1.heap.size w1 w2 := hW.out.trans (hon.below _ hwr (fun b hb h => by omega))
      have h02 := HB.out.trans (h12.mono HB.out.size)
      have HI3 := Lib.hid hi3
      have HM2 := Lib.hid hM2
      have HI2 := Lib.hid hI2
      have HMS := Lib.hid hms
      have H12 := Lib.hid h12
      have H02 := Lib.hid h02
      have HRS : Hid (w1.heap.size + 1 < w2.heap.size) := Lib.hid (Array.getElem?_eq_some_iff.1 hI2).1
      clear hF eM eX eK eS hi3 hM2 hI2 hon hms h12 h02 hM hI hW hwr hlt
      by_cases hE : E = 0
      · subst hE
        cases hx : (X.toList == s.toList) with
        | true =>
          have hRR := HRR.out (by rw [HOK.out]; simp [hx])
          subst hRR
          go_wp2_with (first
          | (go_at_call 111; (with_reducible refine (CR.out _ H02.out).mono ?_); rintro e w3 ⟨rfl, hb3⟩; have h03 := H02.out.trans (hb3.mono H02.out.size); have h04 := h03.alloc h03.size (.cells #[.int .i64 id, .int .i64 arg, .int .u8 kind, .int .i64 n] 40))
          | (go_at_call 42; (with_reducible refine (CT.out _ h04).mono ?_); rintro e w5 ⟨rfl, hb5⟩; have h05 := h04.trans (hb5.mono h04.size); have h25 : Below w2.heap.size w2 w5 := (hb3.alloc hb3.size (.cells #[.int .i64 id, .int .i64 arg, .int .u8 kind, .int .i64 n] 40)).trans (hb5.mono (by have := hb3.size; simp; omega)); have h15 : Below w1.heap.size w1 w5 := H12.out.trans (h25.mono H12.out.size); have b5 := (hb5.block _ (by simp)).trans (World.alloc_heap_new w3 (.cells #[.int .i64 id, .int .i64 arg, .int .u8 kind, .int .i64 n] 40)); have p0 := cell_of_row w5 _ 0 _ 40 (0, 0) b5; have p1 := cell_of_row w5 _ 1 _ 40 (0, 0) b5; have p2 := cell_of_row w5 _ 2 _ 40 (0, 0) b5; have p3 := cell_of_row w5 _ 3 _ 40 (0, 0) b5; have x5 : BoxM w5 w.heap.size ⟨0, 0, 0, 0⟩ := (h15.block _ HX.out.lt).trans HX.out; obtain ⟨y1, y2, y3, y4, e1, e2, e3, e4, s0, f0, s1, f1, s2, f2, s3, f3, z4, o4⟩ := chain40 x5 ⟨id, arg, kind, n⟩; dsimp only at s1 s2 s3 e1 e2 e3 e4))
          all_goals (
            refine bodyPost_ret (results_parse (e := 0) z4 (by simp) (by simp)) rfl ?_
            exact ⟨rfl, h05.trans (o4.below _ h05.size (fun b hb h => by omega))⟩)
        | false =>
          go_wp2_with (first
            | (go_at_call 111; (with_reducible refine (CR.out _ H02.out).mono ?_); rintro e w3 ⟨rfl, hb3⟩; have h03 := H02.out.trans (hb3.mono H02.out.size); have h04 := h03.alloc h03.size (.cells #[.int .i64 id, .int .i64 arg, .int .u8 kind, .int .i64 n] 40))
            | (go_at_call 42; (with_reducible refine (CT.out _ h04).mono ?_); rintro e w5 ⟨rfl, hb5⟩; have h05 := h04.trans (hb5.mono h04.size); have h25 : Below w2.heap.size w2 w5 := (hb3.alloc hb3.size (.cells #[.int .i64 id, .int .i64 arg, .int .u8 kind, .int .i64 n] 40)).trans (hb5.mono (by have := hb3.size; simp; omega))))
          all_goals (
            have m5 : w5.heap[w1.heap.size]? = some (.map (sgArr 3) 3) := (h25.block _ (by have := HRS.out; omega)).trans HM2.out
            have i5 := (h25.block _ HRS.out).trans HI2.out
            have er : w5.rangeLeft w1.heap.size (w1.heap.size + 1) = w2.rangeLeft w1.heap.size (w1.heap.size + 1) := by simp only [World.rangeLeft, m5, i5, show w2.heap[w1.heap.size]? = _ from HM2.out, HI2.out]
            refine ⟨⟨seen.push i, Lib.hid m5, Lib.hid i5, Lib.hid (fun j hj hc => ?_), Lib.hid (H12.out.trans (h25.mono H12.out.size))⟩, by rw [er]; exact HMS.out⟩
            rw [contains_push, Bool.or_eq_true] at hc
            rcases hc with hc | hc
            · exact hS.out j hj hc
            · have : j = i := by simpa using hc
              subst this
              rw [HOK.out]
              simp [hx])
      · have bE : (E == 0) = false := by simpa using hE
        go_wp2_with (first
          | (go_at_call 111; (with_reducible refine (CR.out _ H02.out).mono ?_); rintro e w3 ⟨rfl, hb3⟩; have h03 := H02.out.trans (hb3.mono H02.out.size); have h04 := h03.alloc h03.size (.cells #[.int .i64 id, .int .i64 arg, .int .u8 kind, .int .i64 n] 40))
          | (go_at_call 42; (with_reducible refine (CT.out _ h04).mono ?_); rintro e w5 ⟨rfl, hb5⟩; have h05 := h04.trans (hb5.mono h04.size); have h25 : Below w2.heap.size w2 w5 := (hb3.alloc hb3.size (.cells #[.int .i64 id, .int .i64 arg, .int .u8 kind, .int .i64 n] 40)).trans (hb5.mono (by have := hb3.size; simp; omega))))
        all_goals (
          have m5 : w5.heap[w1.heap.size]? = some (.map (sgArr 3) 3) := (h25.block _ (by have := HRS.out; omega)).trans HM2.out
          have i5 := (h25.block _ HRS.out).trans HI2.out
          have er : w5.rangeLeft w1.heap.size (w1.heap.size + 1) = w2.rangeLeft w1.heap.size (w1.heap.size + 1) := by simp only [World.rangeLeft, m5, i5, show w2.heap[w1.heap.size]? = _ from HM2.out, HI2.out]
          refine ⟨⟨seen.push i, Lib.hid m5, Lib.hid i5, Lib.hid (fun j hj hc => ?_), Lib.hid (H12.out.trans (h25.mono H12.out.size))⟩, by rw [er]; exact HMS.out⟩
          rw [contains_push, Bool.or_eq_true] at hc
          rcases hc with hc | hc
          · exact hS.out j hj hc
          · have : j = i := by simpa using hc
            subst this
            rw [HOK.out]
            simp [hE])
end Go.Proofs.YtklfojmflmablaaGreatDoor
