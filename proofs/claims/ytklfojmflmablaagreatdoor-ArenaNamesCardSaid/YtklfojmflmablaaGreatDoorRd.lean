/- Package arena: numbers and moves read. -/
import Derived.Test.YtklfojmflmablaaGreatDoorTt
namespace Go.Proofs.YtklfojmflmablaaGreatDoor
open Go Go.RowKit Go.Shelf

/-- What the library's variables hold, as far as the texts of arena read them. -/
def Laid (w : World) : Prop := (∃ m, w.cell? ⟨0, 0, none⟩ = some (.int .i64 m)) ∧ (∃ t p, w.cell? ⟨2, 0, none⟩ = some (.iface t p)) ∧ (∃ t p, w.cell? ⟨3, 0, none⟩ = some (.iface t p)) ∧ 4 ≤ w.heap.size
theorem Laid.later {w W : World} (h : Laid w) (hb : Below w.heap.size w W) : Laid W := by
  obtain ⟨⟨m, h0⟩, ⟨t2, p2, h2⟩, ⟨t3, p3, h3⟩, h4⟩ := h
  exact ⟨⟨m, (hb.cell (p := ⟨0, 0, none⟩) (by dsimp only; omega)).trans h0⟩, ⟨t2, p2, (hb.cell (p := ⟨2, 0, none⟩) (by dsimp only; omega)).trans h2⟩, ⟨t3, p3, (hb.cell (p := ⟨3, 0, none⟩) (by dsimp only; omega)).trans h3⟩, Nat.le_trans h4 hb.size⟩

def numOf (s : ByteArray) : Int := match Lib.atoiAll s.data.toList with | .ok v => v | .range => Lib.atoiSat s.data.toList | _ => 0
theorem atoi_any (s : ByteArray) (w : World) (hs : s.size ≤ 281474976710656) (h : Laid w) : Calls Tryz.prog 202 #[.string s] w fun e w' => ∃ ev, e = .returned (.tuple #[.int .i64 (numOf s), ev]) ∧ Below w.heap.size w w' := by
  obtain ⟨_, ⟨t2, p2, h2⟩, ⟨t3, p3, h3⟩, _⟩ := h
  unfold numOf
  cases hx : Lib.atoiAll s.data.toList with
  | ok v =>
    refine (Tryz.strconv_Atoi_ok s (by omega) v hx w).mono ?_
    rintro e w' ⟨rfl, rfl | ⟨t, rfl⟩⟩
    · exact ⟨_, rfl, Below.refl _ _⟩
    · exact ⟨_, rfl, Lib.bytesWorld_below _ _ _⟩
  | range =>
    refine (Tryz.strconv_Atoi_range s hs hx _ w h3 (.inr ⟨_, _, rfl⟩)).mono ?_
    rintro e w' ⟨n, rfl, _, _, hb⟩
    exact ⟨_, rfl, hb⟩
  | _ =>
    refine (Tryz.strconv_Atoi_syntax s hs (by rw [hx]; intro v h; cases h) (by rw [hx]; intro h; cases h) _ w h2 (.inr ⟨_, _, rfl⟩)).mono ?_
    rintro e w' ⟨n, rfl, _, _, hb⟩
    exact ⟨_, rfl, hb⟩

set_option maxRecDepth 100000 in
theorem number_any (s : ByteArray) (w : World) (hs : s.size ≤ 281474976710656) (h : Laid w) : Calls Tryz.prog 171 #[.string s] w fun e w' => e = .returned (.int .i64 (numOf s)) ∧ Below w.heap.size w w' := by
  have CA := Lib.hid (atoi_any s w hs h)
  obtain ⟨N, hN⟩ : ∃ N, numOf s = N := ⟨_, rfl⟩
  rw [hN] at CA ⊢
  clear hs h hN
  go_enter Tryz.func171, Tryz.ntmps171
  go_wp2_with (go_at_call 202; refine CA.out.mono ?_; rintro e w2 ⟨ev, rfl, hb2⟩)
  go_ret
  exact ⟨rfl, hb2⟩

theorem below_drewN (n : Nat) (w : World) : Below w.heap.size w (w.drewN n) := ⟨rfl, rfl, rfl, Nat.le_refl _, fun _ _ => rfl⟩
def cut1 (s sep : ByteArray) : ByteArray := ⟨(Lib.cut s.data.toList sep.data.toList).1.toArray⟩
def cut2 (s sep : ByteArray) : ByteArray := ⟨(Lib.cut s.data.toList sep.data.toList).2.1.toArray⟩
theorem cut_any (s sep : ByteArray) (w : World) (hs : s.size < 4294967281) (h : Laid w) : Calls Tryz.prog 170 #[.string s, .string sep] w fun e w' => ∃ b, e = .returned (.tuple #[.string (cut1 s sep), .string (cut2 s sep), .bool b]) ∧ Below w.heap.size w w' := by
  obtain ⟨⟨m, h0⟩, _⟩ := h
  refine (Tryz.strings_Cut s sep m w hs h0).mono ?_
  rintro e w' ⟨rfl, n, rfl⟩
  exact ⟨_, rfl, below_drewN n w⟩

theorem BoxM.set {W : World} {B : Nat} {m : Mv} (h : BoxM W B m) (m' : Mv) : BoxM ((((W.setCell ⟨B, 0, none⟩ (.int .i64 m'.id)).setCell ⟨B, 1, none⟩ (.int .i64 m'.arg)).setCell ⟨B, 2, none⟩ (.int .u8 m'.kind)).setCell ⟨B, 3, none⟩ (.int .i64 m'.n)) B m' := by
  have h1 := heap_setCell_same W B 0 _ 40 (.int .i64 m'.id) h
  have h2 := heap_setCell_same _ B 1 _ 40 (.int .i64 m'.arg) h1
  have h3 := heap_setCell_same _ B 2 _ 40 (.int .u8 m'.kind) h2
  exact heap_setCell_same _ B 3 _ 40 (.int .i64 m'.n) h3
theorem chain40 {W : World} {B : Nat} {m : Mv} (h : BoxM W B m) (m' : Mv) : ∃ x1 x2 x3 x4 : World,
    W.setCell ⟨B, 0, none⟩ (.int .i64 m'.id) = x1 ∧ x1.setCell ⟨B, 1, none⟩ (.int .i64 m'.arg) = x2 ∧ x2.setCell ⟨B, 2, none⟩ (.int .u8 m'.kind) = x3 ∧ x3.setCell ⟨B, 3, none⟩ (.int .i64 m'.n) = x4 ∧
    W.cell? ⟨B, 0, none⟩ = some (.int .i64 m.id) ∧ W.frozen? ⟨B, 0, none⟩ = false ∧ x1.cell? ⟨B, 1, none⟩ = some (.int .i64 m.arg) ∧ x1.frozen? ⟨B, 1, none⟩ = false ∧ x2.cell? ⟨B, 2, none⟩ = some (.int .u8 m.kind) ∧ x2.frozen? ⟨B, 2, none⟩ = false ∧
    x3.cell? ⟨B, 3, none⟩ = some (.int .i64 m.n) ∧ x3.frozen? ⟨B, 3, none⟩ = false ∧ BoxM x4 B m' ∧ Only (fun k => k = B) W x4 := by
  have f : ∀ i, W.frozen? ⟨B, i, none⟩ = false := fun i => by simp [World.frozen?, show W.heap[B]? = _ from h]
  have h1 := heap_setCell_same W B 0 _ 40 (.int .i64 m'.id) h
  have h2 := heap_setCell_same _ B 1 _ 40 (.int .i64 m'.arg) h1
  have h3 := heap_setCell_same _ B 2 _ 40 (.int .u8 m'.kind) h2
  refine ⟨_, _, _, _, rfl, rfl, rfl, rfl, cell_of_row W B 0 _ 40 (0, 0) h, f 0, cell_of_row _ B 1 _ 40 (0, 0) h1, ?_, cell_of_row _ B 2 _ 40 (0, 0) h2, ?_, cell_of_row _ B 3 _ 40 (0, 0) h3, ?_, h.set m', ?_⟩
  · rw [World.frozen?_setCell]; exact f 1
  · rw [World.frozen?_setCell, World.frozen?_setCell]; exact f 2
  · rw [World.frozen?_setCell, World.frozen?_setCell, World.frozen?_setCell]; exact f 3
  · exact ((((Only.refl (fun k => k = B) W).setCell _ _ fun _ => rfl).setCell _ _ fun _ => rfl).setCell _ _ fun _ => rfl).setCell _ _ fun _ => rfl

theorem results_read {tmps : Array Value} {W : World} {B : Nat} {m : Mv} (h : BoxM W B m) (t6 : tmps[6]?.getD undef = .pointer (some ⟨B, 0, none⟩)) :
    (results Tryz.f111 tmps).run Tryz.prog W = .ok (mvV m) W := by
  have c0 := h.c0
  have c1 := h.c1
  have c2 := h.c2
  have c3 := h.c3
  simp [results, Tryz.results111, t6, go_sem, loadVar, c0, c1, c2, c3, mvV]

def starB (s : ByteArray) : Bool := s.toList == [42]
def readRes (s sign : ByteArray) (kind : Int) : Mv := ⟨numOf (cut1 (cut1 s sign) ⟨#[46]⟩), numOf (cut2 (cut1 s sign) ⟨#[46]⟩), kind, if starB (cut2 s sign) then -1 else numOf (cut2 s sign)⟩
def zeroMv : Mv := ⟨0, 0, 0, 0⟩

set_option maxRecDepth 100000 in
set_option maxHeartbeats 1000000 in
theorem readMove_any (s sign : ByteArray) (kind : Int) (w : World) (h : Laid w) (s0 : s.size < 4294967281) (s1 : (cut1 s sign).size < 4294967281) (s2 : (cut2 s sign).size ≤ 281474976710656)
    (s3 : (cut1 (cut1 s sign) ⟨#[46]⟩).size ≤ 281474976710656) (s4 : (cut2 (cut1 s sign) ⟨#[46]⟩).size ≤ 281474976710656) :
    Calls Tryz.prog 111 #[.string s, .string sign, .int .u8 kind] w fun e w' => e = .returned (mvV (readRes s sign kind)) ∧ Below w.heap.size w w' := by
  have LW : Hid (∀ W, Below w.heap.size w W → Laid W) := Lib.hid fun W hb => h.later hb
  have C1 : Hid (∀ W, Laid W → Calls Tryz.prog 170 #[.string s, .string sign] W fun e w' => ∃ b, e = .returned (.tuple #[.string (cut1 s sign), .string (cut2 s sign), .bool b]) ∧ Below W.heap.size W w') := Lib.hid fun W h => cut_any s sign W s0 h
  have C2 : Hid (∀ W, Laid W → Calls Tryz.prog 170 #[.string (cut1 s sign), .string ⟨#[46]⟩] W fun e w' => ∃ b, e = .returned (.tuple #[.string (cut1 (cut1 s sign) ⟨#[46]⟩), .string (cut2 (cut1 s sign) ⟨#[46]⟩), .bool b]) ∧ Below W.heap.size W w') := Lib.hid fun W h => cut_any _ _ W s1 h
  have N1 : Hid (∀ W, Laid W → Calls Tryz.prog 171 #[.string (cut1 (cut1 s sign) ⟨#[46]⟩)] W fun e w' => e = .returned (.int .i64 (numOf (cut1 (cut1 s sign) ⟨#[46]⟩))) ∧ Below W.heap.size W w') := Lib.hid fun W h => number_any _ W s3 h
  have N2 : Hid (∀ W, Laid W → Calls Tryz.prog 171 #[.string (cut2 (cut1 s sign) ⟨#[46]⟩)] W fun e w' => e = .returned (.int .i64 (numOf (cut2 (cut1 s sign) ⟨#[46]⟩))) ∧ Below W.heap.size W w') := Lib.hid fun W h => number_any _ W s4 h
  have N3 : Hid (∀ W, Laid W → Calls Tryz.prog 171 #[.string (cut2 s sign)] W fun e w' => e = .returned (.int .i64 (numOf (cut2 s sign))) ∧ Below W.heap.size W w') := Lib.hid fun W h => number_any _ W s2 h
  unfold readRes
  obtain ⟨A1, eA1⟩ : ∃ A1, cut1 s sign = A1 := ⟨_, rfl⟩
  obtain ⟨A2, eA2⟩ : ∃ A2, cut2 s sign = A2 := ⟨_, rfl⟩
  rw [eA1] at C1 C2 N1 N2 ⊢
  rw [eA2] at C1 N3 ⊢
  obtain ⟨B1, eB1⟩ : ∃ B1, cut1 A1 ⟨#[46]⟩ = B1 := ⟨_, rfl⟩
  obtain ⟨B2, eB2⟩ : ∃ B2, cut2 A1 ⟨#[46]⟩ = B2 := ⟨_, rfl⟩
  rw [eB1] at C2 N1 ⊢
  rw [eB2] at C2 N2 ⊢
  obtain ⟨n1, e1⟩ : ∃ n, numOf B1 = n := ⟨_, rfl⟩
  obtain ⟨n2, e2⟩ : ∃ n, numOf B2 = n := ⟨_, rfl⟩
  obtain ⟨n3, e3⟩ : ∃ n, numOf A2 = n := ⟨_, rfl⟩
  rw [e1] at N1 ⊢
  rw [e2] at N2 ⊢
  rw [e3] at N3 ⊢
  clear eA1 eA2 eB1 eB2 e1 e2 e3 s0 s1 s2 s3 s4 h
  obtain ⟨w1, hw1⟩ : ∃ w1, w.alloc (.cells #[.int .i64 0, .int .i64 0, .int .u8 0, .int .i64 0] 40) = w1 := ⟨_, rfl⟩
  have hb : Below w.heap.size w w1 := by rw [← hw1]; exact (Below.refl _ w).alloc (Nat.le_refl _) _
  have x0 : BoxM w1 w.heap.size zeroMv := by rw [← hw1]; exact BoxM.new w zeroMv
  have HB := Lib.hid hb
  have HX := Lib.hid x0
  clear hb x0
  cases hst : starB A2 with
  | true =>
    unfold starB at hst
    rw [if_pos rfl]
    go_enter Tryz.func111, Tryz.ntmps111
    go_wp2_with (first
      | (go_at_call 170; with_reducible refine (C1.out _ (LW.out _ HB.out)).mono ?_; rintro e w2 ⟨b1, rfl, hb2⟩; have h02 := HB.out.trans (hb2.mono HB.out.size))
      | (go_at_call 170; with_reducible refine (C2.out _ (LW.out _ h02)).mono ?_; rintro e w3 ⟨b2, rfl, hb3⟩; have h03 := h02.trans (hb3.mono h02.size))
      | (go_at_call 171; with_reducible refine (N1.out _ (LW.out _ h03)).mono ?_; rintro e w4 ⟨rfl, hb4⟩; have h04 := h03.trans (hb4.mono h03.size))
      | (go_at_call 171; with_reducible refine (N2.out _ (LW.out _ h04)).mono ?_; rintro e w5 ⟨rfl, hb5⟩; have h05 := h04.trans (hb5.mono h04.size)))
    all_goals (
      go_at_call 171
      with_reducible refine (N3.out _ (LW.out _ h05)).mono ?_
      rintro e w6 ⟨rfl, hb6⟩
      have h06 := h05.trans (hb6.mono h05.size)
      have h16 : Below w1.heap.size w1 w6 := hb2.trans ((hb3.trans ((hb4.trans ((hb5.trans (hb6.mono hb5.size)).mono hb4.size)).mono hb3.size)).mono hb2.size)
      have x6 : BoxM w6 w.heap.size zeroMv := (h16.block _ HX.out.lt).trans HX.out
      have x7 : BoxM (w6.alloc (.cells #[.int .i64 n1, .int .i64 n2, .int .u8 kind, .int .i64 (-1)] 40)) w.heap.size ⟨0, 0, 0, 0⟩ := (Below.heap_alloc _ _ _ x6.lt).trans x6
      obtain ⟨y1, y2, y3, y4, e1, e2, e3, e4, s0, f0, s1, f1, s2, f2, s3, f3, z4, o4⟩ := chain40 x7 ⟨n1, n2, kind, -1⟩
      dsimp only at s1 s2 s3 e1 e2 e3 e4)
    all_goals go_wp2
    all_goals (
      refine bodyPost_ret (results_read z4 (by simp)) rfl ?_
      have h07 := h06.alloc h06.size (.cells #[.int .i64 n1, .int .i64 n2, .int .u8 kind, .int .i64 (-1)] 40)
      exact ⟨rfl, h07.trans (o4.below _ h07.size (fun b hb h => by omega))⟩)
  | false =>
    unfold starB at hst
    rw [if_neg (by simp)]
    go_enter Tryz.func111, Tryz.ntmps111
    go_wp2_with (first
      | (go_at_call 170; with_reducible refine (C1.out _ (LW.out _ HB.out)).mono ?_; rintro e w2 ⟨b1, rfl, hb2⟩; have h02 := HB.out.trans (hb2.mono HB.out.size))
      | (go_at_call 170; with_reducible refine (C2.out _ (LW.out _ h02)).mono ?_; rintro e w3 ⟨b2, rfl, hb3⟩; have h03 := h02.trans (hb3.mono h02.size))
      | (go_at_call 171; with_reducible refine (N1.out _ (LW.out _ h03)).mono ?_; rintro e w4 ⟨rfl, hb4⟩; have h04 := h03.trans (hb4.mono h03.size))
      | (go_at_call 171; with_reducible refine (N2.out _ (LW.out _ h04)).mono ?_; rintro e w5 ⟨rfl, hb5⟩; have h05 := h04.trans (hb5.mono h04.size)))
    all_goals (
      go_at_call 171
      with_reducible refine (N3.out _ (LW.out _ h05)).mono ?_
      rintro e w6 ⟨rfl, hb6⟩
      have h06 := h05.trans (hb6.mono h05.size)
      have h16 : Below w1.heap.size w1 w6 := hb2.trans ((hb3.trans ((hb4.trans ((hb5.trans (hb6.mono hb5.size)).mono hb4.size)).mono hb3.size)).mono hb2.size)
      have x6 : BoxM w6 w.heap.size zeroMv := (h16.block _ HX.out.lt).trans HX.out
      have x7 : BoxM (w6.alloc (.cells #[.int .i64 n1, .int .i64 n2, .int .u8 kind, .int .i64 n3] 40)) w.heap.size ⟨0, 0, 0, 0⟩ := (Below.heap_alloc _ _ _ x6.lt).trans x6
      obtain ⟨y1, y2, y3, y4, e1, e2, e3, e4, s0, f0, s1, f1, s2, f2, s3, f3, z4, o4⟩ := chain40 x7 ⟨n1, n2, kind, n3⟩
      dsimp only at s1 s2 s3 e1 e2 e3 e4)
    all_goals go_wp2
    all_goals (
      refine bodyPost_ret (results_read z4 (by simp)) rfl ?_
      have h07 := h06.alloc h06.size (.cells #[.int .i64 n1, .int .i64 n2, .int .u8 kind, .int .i64 n3] 40)
      exact ⟨rfl, h07.trans (o4.below _ h07.size (fun b hb h => by omega))⟩)
end Go.Proofs.YtklfojmflmablaaGreatDoor
