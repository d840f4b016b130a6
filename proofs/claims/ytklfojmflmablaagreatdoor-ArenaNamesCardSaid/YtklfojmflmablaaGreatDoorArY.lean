/- Package arena: the first place of which something is so; whether a place has a move. -/
import Derived.RangeFuncCalls
import Derived.Laws.StructEq
import Derived.Test.YtklfojmflmablaaGreatDoorArW
namespace Go.Proofs.YtklfojmflmablaaGreatDoor
open Go Go.RowKit Go.Shelf
attribute [local go_sem] Oper.semAt_some

section
variable {W : World} {B : Nat} {p q : Pl}
theorem BoxP.set (h : BoxP W B p) (q : Pl) : BoxP (((((W.setCell ⟨B, 0, none⟩ (.bool q.b.cell)).setCell ⟨B, 1, none⟩ (.int .i64 q.b.n)).setCell ⟨B, 2, none⟩ (.int .i64 q.id)).setCell ⟨B, 3, none⟩ (.int .i64 q.arg)).setCell ⟨B, 4, none⟩ (.bool q.jumps)) B q := by
  have h1 := heap_setCell_same W B 0 _ 111 (.bool q.b.cell) h
  have h2 := heap_setCell_same _ B 1 _ 111 (.int .i64 q.b.n) h1
  have h3 := heap_setCell_same _ B 2 _ 111 (.int .i64 q.id) h2
  have h4 := heap_setCell_same _ B 3 _ 111 (.int .i64 q.arg) h3
  exact heap_setCell_same _ B 4 _ 111 (.bool q.jumps) h4
theorem BoxP.c1' (h : BoxP W B p) (u0 : Value) : (W.setCell ⟨B, 0, none⟩ u0).cell? ⟨B, 1, none⟩ = some (.int .i64 p.b.n) :=
  cell_of_row _ B 1 _ 111 (0, 0) (heap_setCell_same W B 0 _ 111 u0 h)
theorem BoxP.c2' (h : BoxP W B p) (u0 u1 : Value) : ((W.setCell ⟨B, 0, none⟩ u0).setCell ⟨B, 1, none⟩ u1).cell? ⟨B, 2, none⟩ = some (.int .i64 p.id) :=
  cell_of_row _ B 2 _ 111 (0, 0) (heap_setCell_same _ B 1 _ 111 u1 (heap_setCell_same W B 0 _ 111 u0 h))
theorem BoxP.c3' (h : BoxP W B p) (u0 u1 u2 : Value) : (((W.setCell ⟨B, 0, none⟩ u0).setCell ⟨B, 1, none⟩ u1).setCell ⟨B, 2, none⟩ u2).cell? ⟨B, 3, none⟩ = some (.int .i64 p.arg) :=
  cell_of_row _ B 3 _ 111 (0, 0) (heap_setCell_same _ B 2 _ 111 u2 (heap_setCell_same _ B 1 _ 111 u1 (heap_setCell_same W B 0 _ 111 u0 h)))
theorem BoxP.c4' (h : BoxP W B p) (u0 u1 u2 u3 : Value) : ((((W.setCell ⟨B, 0, none⟩ u0).setCell ⟨B, 1, none⟩ u1).setCell ⟨B, 2, none⟩ u2).setCell ⟨B, 3, none⟩ u3).cell? ⟨B, 4, none⟩ = some (.bool p.jumps) :=
  cell_of_row _ B 4 _ 111 (0, 0) (heap_setCell_same _ B 3 _ 111 u3 (heap_setCell_same _ B 2 _ 111 u2 (heap_setCell_same _ B 1 _ 111 u1 (heap_setCell_same W B 0 _ 111 u0 h))))
theorem only_set5 {S : Sets} (hS : S B) (u0 u1 u2 u3 u4 : Value) : Only S W (((((W.setCell ⟨B, 0, none⟩ u0).setCell ⟨B, 1, none⟩ u1).setCell ⟨B, 2, none⟩ u2).setCell ⟨B, 3, none⟩ u3).setCell ⟨B, 4, none⟩ u4) :=
  (((((Only.refl S W).setCell _ _ fun _ => hS).setCell _ _ fun _ => hS).setCell _ _ fun _ => hS).setCell _ _ fun _ => hS).setCell _ _ fun _ => hS
end

def zeroPl : Pl := ⟨⟨false, 0⟩, 0, 0, false⟩
def findRes (l : List Pl) (so : Pl → Bool) : Pl × Bool := match l.find? so with | none => (zeroPl, false) | some p => (p, true)

theorem results_find {tmps : Array Value} {W : World} {B C : Nat} {p : Pl} {b : Bool} (h : BoxP W B p) (hb : Boxed W C 4 (.bool b)) (t4 : tmps[4]?.getD undef = .pointer (some ⟨B, 0, none⟩)) (t5 : tmps[5]?.getD undef = .pointer (some ⟨C, 0, none⟩)) :
    (results Tryz.f100 tmps).run Tryz.prog W = .ok (.tuple #[plV p, .bool b]) W := by
  have c0 := h.c0
  have c1 := h.c1
  have c2 := h.c2
  have c3 := h.c3
  have c4 := h.c4
  have cb := hb.cell
  simp [results, Tryz.results100, t4, t5, go_sem, loadVar, c0, c1, c2, c3, c4, cb, plV]

theorem find_prefix {l : List Pl} {so : Pl → Bool} {pre : List Pl} {x : Pl} (hx : pre ++ [x] <+: l) (hn : ∀ p ∈ pre, so p = false) (h : so x = true) : l.find? so = some x := by
  obtain ⟨r, rfl⟩ := hx
  rw [List.append_assoc, List.find?_append]
  have : pre.find? so = none := List.find?_eq_none.2 fun p hp => by rw [hn p hp]; simp
  rw [this]
  simp [h]

set_option maxRecDepth 100000 in
set_option maxHeartbeats 2000000 in
theorem find_any (v : Value) (a : Ar) (fv : Value) (so : Pl → Bool) (w : World) (hs : smallAr a) (hv : TyIn w w.heap.size v a.ids) (hf : SoFn fv so w.heap.size w) :
    Calls Tryz.prog 100 #[arV v a.root a.jumps, fv] w fun e w' => e = .returned (.tuple #[plV (findRes (places a) so).1, .bool (findRes (places a) so).2]) ∧ Below w.heap.size w w' := by
  obtain ⟨k, cp, rfl, ek, hso⟩ := hf
  have HSO := Lib.hid hso
  have HS := Lib.hid hs
  obtain ⟨A, cap, rfl, hA⟩ := hv
  have HV : Hid (TyIn w w.heap.size (.slice A a.ids.length cap) a.ids) := Lib.hid ⟨A, cap, rfl, hA⟩
  clear hso hs hA
  obtain ⟨W0, hW0⟩ : ∃ W0, (((w.alloc (.cells #[.slice A a.ids.length cap, .bool a.root.cell, .int .i64 a.root.n, .bool a.jumps] 105)).alloc (.cells #[.func (.func k) #[] cp] 107)).alloc (.cells #[.bool false, .int .i64 0, .int .i64 0, .int .i64 0, .bool false] 111)).alloc (.cells #[.bool false] 4) = W0 := ⟨_, rfl⟩
  have z0 : W0.heap.size = w.heap.size + 1 + 1 + 1 + 1 := by rw [← hW0]; simp
  have o0 : Below w.heap.size w W0 := by rw [← hW0]; exact ((((Below.refl _ w).alloc (Nat.le_refl _) _).alloc (by simp) _).alloc (by simp; omega) _).alloc (by simp; omega) _
  have x0 : W0.heap[w.heap.size]? = some (.cells #[.slice A a.ids.length cap, .bool a.root.cell, .int .i64 a.root.n, .bool a.jumps] 105 (0, 0)) := by
    rw [← hW0, Below.heap_alloc _ _ _ (by simp; omega), Below.heap_alloc _ _ _ (by simp; omega), Below.heap_alloc _ _ _ (by simp)]; exact World.alloc_heap_new w _
  have x1 : Boxed W0 (w.heap.size + 1) 107 (.func (.func k) #[] cp) := by
    rw [← hW0]; refine Boxed.alloc (Boxed.alloc ?_ _) _; have := Boxed.new (w.alloc (.cells #[.slice A a.ids.length cap, .bool a.root.cell, .int .i64 a.root.n, .bool a.jumps] 105)) 107 (.func (.func k) #[] cp); rwa [World.size_alloc] at this
  have x2 : BoxP W0 (w.heap.size + 1 + 1) zeroPl := by
    rw [← hW0]; refine (Below.heap_alloc _ _ _ (by simp)).trans ?_; have := BoxP.new ((w.alloc (.cells #[.slice A a.ids.length cap, .bool a.root.cell, .int .i64 a.root.n, .bool a.jumps] 105)).alloc (.cells #[.func (.func k) #[] cp] 107)) zeroPl; rwa [World.size_alloc, World.size_alloc] at this
  have x3 : Boxed W0 (w.heap.size + 1 + 1 + 1) 4 (.bool false) := by
    rw [← hW0]; have := Boxed.new (((w.alloc (.cells #[.slice A a.ids.length cap, .bool a.root.cell, .int .i64 a.root.n, .bool a.jumps] 105)).alloc (.cells #[.func (.func k) #[] cp] 107)).alloc (.cells #[.bool false, .int .i64 0, .int .i64 0, .int .i64 0, .bool false] 111)) 4 (.bool false); rwa [World.size_alloc, World.size_alloc, World.size_alloc] at this
  have HZ := Lib.hid z0
  have HB0 := Lib.hid o0
  have HX1 := Lib.hid x1
  have HX2 := Lib.hid x2
  have HX3 := Lib.hid x3
  have c0 := cell_of_row W0 _ 0 _ 105 (0, 0) x0
  have c1 := cell_of_row W0 _ 1 _ 105 (0, 0) x0
  have c2 := cell_of_row W0 _ 2 _ 105 (0, 0) x0
  have c3 := cell_of_row W0 _ 3 _ 105 (0, 0) x0
  clear z0 o0 x0 x1 x2 x3
  unfold arV
  refine (callsIn_wide (n := 3)).1 ?_
  refine callsIn_of_wp_marks Tryz.func100 rfl trivial ?_ rfl
  simp only [Tryz.ntmps100, List.size_toArray, List.length_cons, List.length_nil, Nat.reduceAdd, Nat.reduceSub, Array.replicate_succ, Array.replicate_zero, List.push_toArray, List.append_toArray, List.nil_append, List.cons_append]
  gi_wp2
  have HIT : Hid (Iters Tryz.prog 153 (fun y => (#[.agg #[.slice A a.ids.length cap, .bool a.root.cell, .int .i64 a.root.n, .bool a.jumps]] ++ #[y]) ++ #[]) (fun p => #[plV p]) (places a) (fun b => b < w.heap.size) W0) := Lib.hid (by
    have := places_iters (.slice A a.ids.length cap) a w.heap.size W0 HS.out (by have := HZ.out; omega) (HV.out.below HB0.out.block)
    unfold arV at this
    simpa using this)
  refine wpIn_range (gf := 153) (lb := #[]) rfl (enters_of Tryz.func153 (by kernel_rfl) rfl) HIT.out (fun _ => rfl)
    (fun pre R W => (∀ b, R b ↔ (b = w.heap.size + 1 + 1 ∨ b = w.heap.size + 1 + 1 + 1)) ∧ BoxP W (w.heap.size + 1 + 1) zeroPl ∧ Boxed W (w.heap.size + 1 + 1 + 1) 4 (.bool false) ∧ ∀ p ∈ pre, so p = false)
    (fun c pre R W => c = .ret ∧ (∀ b, R b ↔ (b = w.heap.size + 1 + 1 ∨ b = w.heap.size + 1 + 1 + 1)) ∧ ∃ p, (places a).find? so = some p ∧ BoxP W (w.heap.size + 1 + 1) p ∧ Boxed W (w.heap.size + 1 + 1 + 1) 4 (.bool true))
    (fun _ _ _ _ hj ho => ⟨hj.1, hj.2.1.only ho (fun h => h.2 ((hj.1 _).2 (.inl rfl))), (ho.block _ hj.2.2.1.lt (fun h => h.2 ((hj.1 _).2 (.inr rfl)))).trans hj.2.2.1, hj.2.2.2⟩)
    (fun _ _ _ _ _ hj ho => ⟨hj.1, hj.2.1, hj.2.2.elim fun p hp => ⟨p, hp.1, hp.2.1.only ho (fun h => h.2 ((hj.2.1 _).2 (.inl rfl))), (ho.block _ hp.2.2.lt (fun h => h.2 ((hj.2.1 _).2 (.inr rfl)))).trans hp.2.2⟩⟩)
    (fun b => b = w.heap.size + 1 + 1 ∨ b = w.heap.size + 1 + 1 + 1) (fun b hb => by have := HZ.out; omega) (fun b hb => by have := HZ.out; omega) (fun b hb => by omega)
    ⟨fun b => Iff.rfl, HX2.out, HX3.out, fun p hp => by cases hp⟩ ?round ?done ?stop
  case round =>
    intro l pre x R3 W3 hx hft hi hnl hlt hle
    unfold plV
    gi_wp2
    refine ⟨(Only.refl _ _).alloc _, fun W5 hsz ho1 ho2 hi5 => ?_⟩
    obtain ⟨hR, hz5, hb5, hno⟩ := hi5
    have keep5 : ∀ (b : Nat) (o : Obj), W0.heap[b]? = some o → b ≠ w.heap.size + 1 + 1 → b ≠ w.heap.size + 1 + 1 + 1 → W5.heap[b]? = some o := fun b o hb hne hne2 => by
      have hlt := (Array.getElem?_eq_some_iff.1 hb).1
      have h3 := hft.box hb (fun h => h.elim hne hne2)
      exact (ho2.block b (Array.getElem?_eq_some_iff.1 h3).1 (by have := HZ.out; omega)).trans h3
    have bp : BoxP W5 W3.heap.size x := (BoxP.new W3 x).only ho1 (by omega)
    have y1 : Boxed W5 _ _ _ := keep5 _ _ HX1.out (by omega) (by omega)
    have p0 := bp.c0
    have p1 := bp.c1
    have p2 := bp.c2
    have p3 := bp.c3
    have p4 := bp.c4
    have cy1 := y1.cell
    have HS5 : Hid (W5.heap.size = W3.heap.size + 1) := Lib.hid (by rw [hsz]; simp)
    have HBP := Lib.hid bp
    have HZ5 := Lib.hid hz5
    have HB5 := Lib.hid hb5
    have HNO := Lib.hid hno
    have HR := Lib.hid hR
    have HFT := Lib.hid hft
    have HX := Lib.hid hx
    have HLOW : Hid (∀ b, b < w.heap.size → W5.heap[b]? = w.heap[b]?) := Lib.hid fun b hb => by
      have h0 := HB0.out.block b hb
      have hb' : W0.heap[b]? = some (w.heap[b]'hb) := h0.trans (Array.getElem?_eq_getElem hb)
      rw [keep5 b _ hb' (by omega) (by omega)]
      exact (Array.getElem?_eq_getElem hb).symm
    have CK : Hid (CallsIn (Fence.wide.inRound l) 2 Tryz.prog k (#[plV x] ++ cp) W5 fun e W' => e = .returned (.bool (so x)) ∧ Below W5.heap.size W5 W') := Lib.hid (CallsIn.inRound l (callsIn_wide.2 (HSO.out W5 HLOW.out x)))
    unfold plV at CK
    clear hsz ho1 ho2 hz5 hb5 hno hR keep5 bp y1 hft hx hi
    cases hso : so x with
    | true =>
      rw [hso] at CK
      have HSOX := Lib.hid hso
      clear hso
      gi_wp2_with (refine ⟨trivial, ?_⟩; gi_at_fn k; refine CK.out.mono ?_; rintro e W6 ⟨rfl, hb6⟩; have z6 : BoxP W6 _ _ := (hb6.block _ HZ5.out.lt).trans HZ5.out; have b6 : Boxed W6 _ _ _ := (hb6.block _ HB5.out.lt).trans HB5.out; have bp : BoxP W6 _ _ := (hb6.block _ HBP.out.lt).trans HBP.out; have p0 := bp.c0; have p1 := bp.c1; have p2 := bp.c2; have p3 := bp.c3; have p4 := bp.c4; have q0 := z6.c0; have q1 := z6.c1'; have q2 := z6.c2'; have q3 := z6.c3'; have q4 := z6.c4'; have qf := z6.f0; have q5 := b6.cell; have q5f := b6.frozen; have HZ6 := Lib.hid z6; have HB6 := Lib.hid b6; clear z6 b6 bp)
      have oS := (only_set5 (W := W6) (B := w.heap.size + 1 + 1) (S := R3) ((HR.out _).2 (.inl rfl)) (.bool x.b.cell) (.int .i64 x.b.n) (.int .i64 x.id) (.int .i64 x.arg) (.bool x.jumps)).setCell ⟨w.heap.size + 1 + 1 + 1, 0, none⟩ (.bool true) (fun _ => (HR.out _).2 (.inr rfl))
      have oB := only_set5 (W := W6) (B := w.heap.size + 1 + 1) (S := fun b => b = w.heap.size + 1 + 1) rfl (.bool x.b.cell) (.int .i64 x.b.n) (.int .i64 x.id) (.int .i64 x.arg) (.bool x.jumps)
      refine ⟨R3, ⟨fun b h => .inl h, fun b h => by have := HFT.out.lt b h; have := HS5.out; have := hb6.size; have := oS.size; omega, (Only.of_below hb6).trans oS (fun _ _ h => h)⟩, rfl, HR.out, x, find_prefix HX.out HNO.out HSOX.out, ?_, ?_⟩
      · exact (Below.heap_setCell _ _ _ _ (by simp)).trans (HZ6.out.set x)
      · exact Boxed.set _ ((oB.block _ HB6.out.lt (by omega)).trans HB6.out)
    | false =>
      rw [hso] at CK
      have HSOX := Lib.hid hso
      clear hso
      gi_wp2_with (refine ⟨trivial, ?_⟩; gi_at_fn k; refine CK.out.mono ?_; rintro e W6 ⟨rfl, hb6⟩)
      refine ⟨R3, ⟨fun b h => .inl h, fun b h => by have := HFT.out.lt b h; have := HS5.out; have := hb6.size; omega, Only.of_below hb6⟩, HR.out, (hb6.block _ HZ5.out.lt).trans HZ5.out, (hb6.block _ HB5.out.lt).trans HB5.out, ?_⟩
      intro p hp
      rcases List.mem_append.1 hp with hp | hp
      · exact HNO.out p hp
      · obtain rfl : p = x := by simpa using hp
        exact HSOX.out
  case done =>
    intro D R3 W3 hD hnD hft hJ3 hK
    obtain ⟨hR, hz, hb, hno⟩ := hJ3
    have HZ3 := Lib.hid hz
    have HB3 := Lib.hid hb
    have HR := Lib.hid hR
    have HFT := Lib.hid hft
    have HK := Lib.hid hK
    have HND := Lib.hid hnD
    have HNO : Hid (findRes (places a) so = (zeroPl, false)) := Lib.hid (by
      unfold findRes
      rw [List.find?_eq_none.2 fun p hp => by rw [hno p hp]; simp])
    have q0 := hz.c0; have q1 := hz.c1'; have q2 := hz.c2'; have q3 := hz.c3'; have q4 := hz.c4'; have qf := hz.f0; have q5 := hb.cell; have q5f := hb.frozen
    have hB3 : Hid (Below w.heap.size w W3) := Lib.hid (HB0.out.trans (hft.only.below _ (by have := HZ.out; omega) (fun b hb h => by omega)))
    clear hz hb hR hft hK hnD hno
    gi_wp2
    have oS := (only_set5 (W := W3) (B := w.heap.size + 1 + 1) (S := R3) ((HR.out _).2 (.inl rfl)) (.bool false) (.int .i64 0) (.int .i64 0) (.int .i64 0) (.bool false)).setCell ⟨w.heap.size + 1 + 1 + 1, 0, none⟩ (.bool false) (fun _ => (HR.out _).2 (.inr rfl))
    have oB := only_set5 (W := W3) (B := w.heap.size + 1 + 1) (S := fun b => b = w.heap.size + 1 + 1) rfl (.bool false) (.int .i64 0) (.int .i64 0) (.int .i64 0) (.bool false)
    have hK4 := (oS.block D (Array.getElem?_eq_some_iff.1 HK.out).1 HND.out).trans HK.out
    have o5 := (Only.refl (fun k => k = D) _).putObj (A := ((((((W3.setCell ⟨w.heap.size + 1 + 1, 0, none⟩ (.bool false)).setCell ⟨w.heap.size + 1 + 1, 1, none⟩ (.int .i64 0)).setCell ⟨w.heap.size + 1 + 1, 2, none⟩ (.int .i64 0)).setCell ⟨w.heap.size + 1 + 1, 3, none⟩ (.int .i64 0)).setCell ⟨w.heap.size + 1 + 1, 4, none⟩ (.bool false)).setCell ⟨w.heap.size + 1 + 1 + 1, 0, none⟩ (.bool false))) D (.deferred none) (fun _ => rfl)
    have bP := (show BoxP _ (w.heap.size + 1 + 1) zeroPl from (Below.heap_setCell _ _ _ _ (by simp)).trans (HZ3.out.set zeroPl)).only o5 (by have := HZ.out; omega)
    have b0 : Boxed _ (w.heap.size + 1 + 1 + 1) 4 (.bool false) := Boxed.set (.bool false) ((oB.block _ HB3.out.lt (by omega)).trans HB3.out)
    have bB : Boxed _ (w.heap.size + 1 + 1 + 1) 4 (.bool false) := (o5.block _ b0.lt (by have := HZ.out; omega)).trans b0
    refine ⟨by simp, .inl ⟨_, _, rfl, run_takeDeferred hK4, ?_⟩⟩
    refine ⟨_, results_find bP bB rfl rfl, by rw [HNO.out], hB3.out.trans (((oS.mono (T := fun b => w.heap.size ≤ b) (fun b _ h => by have := (HR.out b).1 h; omega)).trans o5 (fun b _ h => by have := HZ.out; omega)).below _ hB3.out.size (fun b hb h => absurd h (by omega)))⟩
  case stop =>
    rintro D c pre R3 W3 hD hnD hpre hft ⟨rfl, hR, p, hp, hbp, hbb⟩ hK
    have HFT := Lib.hid hft
    have HNO : Hid (findRes (places a) so = (p, true)) := Lib.hid (by unfold findRes; rw [hp])
    have HP3 := Lib.hid hbp
    have HB3 := Lib.hid hbb
    have HK := Lib.hid hK
    have hB3 : Hid (Below w.heap.size w W3) := Lib.hid (HB0.out.trans (hft.only.below _ (by have := HZ.out; omega) (fun b hb h => by omega)))
    clear hft hp hbp hbb hK
    gi_wp2
    have o5 := (Only.refl (fun k => k = D) W3).putObj D (.deferred none) (fun _ => rfl)
    refine ⟨by simp, .inl ⟨_, _, rfl, run_takeDeferred HK.out, ?_⟩⟩
    exact ⟨_, results_find (HP3.out.only o5 (by have := HZ.out; omega)) ((o5.block _ HB3.out.lt (by have := HZ.out; omega)).trans HB3.out) rfl rfl, by rw [HNO.out], hB3.out.trans (belowK_b (w := w) (Nat.le_refl _) W3 D _ _ (by have := HZ.out; omega) HK.out rfl rfl)⟩
end Go.Proofs.YtklfojmflmablaaGreatDoor
