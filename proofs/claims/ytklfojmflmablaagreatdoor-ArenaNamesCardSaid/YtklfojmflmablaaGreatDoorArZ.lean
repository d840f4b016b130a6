/- Package arena: whether a place has a move. -/
import Derived.Laws.StructEq
import Derived.Test.YtklfojmflmablaaGreatDoorArY
namespace Go.Proofs.YtklfojmflmablaaGreatDoor
open Go Go.RowKit Go.Shelf
attribute [local go_sem] Oper.semAt_some

theorem eq40 (w : World) (a b : Mv) : (binOp .eql 40 (mvV a) (mvV b)).run Tryz.prog w = .ok (.bool (decide (a = b))) w := by
  have hS : Tryz.prog.underlying 40 = some (.struct (Tryz.prog.fieldsOf 40)) := by kernel_rfl
  have hp : Tryz.prog.stoodInHeld 40 = false := by kernel_rfl
  have u3 := Tryz.underlying3
  have u5 := Tryz.underlying5
  unfold mvV
  rw [run_eql_struct, show (10000 : Nat) = 9999 + 1 from rfl, run_equalIn_agg w 9999 40 _ _ hS hp]
  simp only [Program.fieldsOf, Tryz.underlying40]
  go_simp
  obtain ⟨i, g, k, n⟩ := a
  obtain ⟨i', g', k', n'⟩ := b
  simp only [Mv.mk.injEq]
  by_cases h1 : i = i' <;> by_cases h2 : g = g' <;> by_cases h3 : k = k' <;> by_cases h4 : n = n' <;> simp [h1, h2, h3, h4]
theorem guard40 : Tryz.prog.eqGuardType Tryz.prog.depth 40 = false := by kernel_rfl

def hasMv (p : Pl) (m : Mv) : Bool := (movesOf p).any fun x => decide (x = m)

theorem results_has {tmps : Array Value} {W : World} {C : Nat} {b : Bool} (hb : Boxed W C 4 (.bool b)) (t4 : tmps[4]?.getD undef = .pointer (some ⟨C, 0, none⟩)) :
    (results Tryz.f160 tmps).run Tryz.prog W = .ok (.bool b) W := by
  have cb := hb.cell
  simp [results, Tryz.results160, t4, go_sem, loadVar, cb]

set_option maxRecDepth 100000 in
set_option maxHeartbeats 2000000 in
theorem has_any (p : Pl) (m : Mv) (w : World) (h64 : p.b.n ≤ 9223372036854775807) :
    Calls Tryz.prog 160 #[plV p, mvV m] w fun e w' => e = .returned (.bool (hasMv p m)) ∧ Below w.heap.size w w' := by
  obtain ⟨W0, hW0⟩ : ∃ W0, ((w.alloc (.cells #[.bool p.b.cell, .int .i64 p.b.n, .int .i64 p.id, .int .i64 p.arg, .bool p.jumps] 111)).alloc (.cells #[.int .i64 m.id, .int .i64 m.arg, .int .u8 m.kind, .int .i64 m.n] 40)).alloc (.cells #[.bool false] 4) = W0 := ⟨_, rfl⟩
  have z0 : W0.heap.size = w.heap.size + 1 + 1 + 1 := by rw [← hW0]; simp
  have o0 : Below w.heap.size w W0 := by rw [← hW0]; exact (((Below.refl _ w).alloc (Nat.le_refl _) _).alloc (by simp) _).alloc (by simp; omega) _
  have x0 : BoxP W0 w.heap.size p := by
    rw [← hW0]; exact (Below.heap_alloc _ _ _ (by simp; omega)).trans ((Below.heap_alloc _ _ _ (by simp)).trans (BoxP.new w p))
  have x1 : BoxM W0 (w.heap.size + 1) m := by
    rw [← hW0]; refine (Below.heap_alloc _ _ _ (by simp)).trans ?_; have := BoxM.new (w.alloc (.cells #[.bool p.b.cell, .int .i64 p.b.n, .int .i64 p.id, .int .i64 p.arg, .bool p.jumps] 111)) m; rwa [World.size_alloc] at this
  have x2 : Boxed W0 (w.heap.size + 1 + 1) 4 (.bool false) := by
    rw [← hW0]; have := Boxed.new ((w.alloc (.cells #[.bool p.b.cell, .int .i64 p.b.n, .int .i64 p.id, .int .i64 p.arg, .bool p.jumps] 111)).alloc (.cells #[.int .i64 m.id, .int .i64 m.arg, .int .u8 m.kind, .int .i64 m.n] 40)) 4 (.bool false); rwa [World.size_alloc, World.size_alloc] at this
  have HZ := Lib.hid z0
  have HB0 := Lib.hid o0
  have HX1 := Lib.hid x1
  have HX2 := Lib.hid x2
  have c0 := x0.c0
  have c1 := x0.c1
  have c2 := x0.c2
  have c3 := x0.c3
  have c4 := x0.c4
  have HIT : Hid (Iters Tryz.prog 74 (fun y => (#[plV p] ++ #[y]) ++ #[]) (fun m => #[mvV m]) (movesOf p) (fun _ => False) W0) := Lib.hid (by have := placeMoves_iters p h64 W0; simpa using this)
  unfold plV at HIT ⊢
  clear z0 o0 x0 x1 x2
  refine (callsIn_wide (n := 3)).1 ?_
  refine callsIn_of_wp_marks Tryz.func160 rfl trivial ?_ rfl
  unfold mvV
  simp only [Tryz.ntmps160, List.size_toArray, List.length_cons, List.length_nil, Nat.reduceAdd, Nat.reduceSub, Array.replicate_succ, Array.replicate_zero, List.push_toArray, List.append_toArray, List.nil_append, List.cons_append]
  gi_wp2
  refine wpIn_range (gf := 74) (lb := #[]) rfl (enters_of Tryz.func74 (by kernel_rfl) rfl) HIT.out (fun _ => rfl)
    (fun pre R W => (∀ b, R b ↔ b = w.heap.size + 1 + 1) ∧ Boxed W (w.heap.size + 1 + 1) 4 (.bool false) ∧ ∀ x ∈ pre, x ≠ m)
    (fun c pre R W => c = .ret ∧ (∀ b, R b ↔ b = w.heap.size + 1 + 1) ∧ m ∈ movesOf p ∧ Boxed W (w.heap.size + 1 + 1) 4 (.bool true))
    (fun _ _ _ _ hj ho => ⟨hj.1, (ho.block _ hj.2.1.lt (fun h => h.2 ((hj.1 _).2 rfl))).trans hj.2.1, hj.2.2⟩)
    (fun _ _ _ _ _ hj ho => ⟨hj.1, hj.2.1, hj.2.2.1, (ho.block _ hj.2.2.2.lt (fun h => h.2 ((hj.2.1 _).2 rfl))).trans hj.2.2.2⟩)
    (fun b => b = w.heap.size + 1 + 1) (fun b hb => by have := HZ.out; omega) (fun b hb => by exact hb.elim) (fun b _ hb => hb)
    ⟨fun b => Iff.rfl, HX2.out, fun p hp => by cases hp⟩ ?round ?done ?stop
  case round =>
    intro l pre x R3 W3 hx hft hi hnl hlt hle
    unfold mvV
    gi_wp2
    refine ⟨(Only.refl _ _).alloc _, fun W5 hsz ho1 ho2 hi5 => ?_⟩
    obtain ⟨hR, hb5, hno⟩ := hi5
    have bx : BoxM W5 W3.heap.size x := (BoxM.new W3 x).only ho1 (by omega)
    have h3 : BoxM W3 (w.heap.size + 1) m := hft.box HX1.out (by omega)
    have bm : BoxM W5 (w.heap.size + 1) m := h3.only ho2 (by have := HZ.out; omega)
    have p0 := bx.c0
    have p1 := bx.c1
    have p2 := bx.c2
    have p3 := bx.c3
    have m0 := bm.c0
    have m1 := bm.c1
    have m2 := bm.c2
    have m3 := bm.c3
    have q5 := hb5.cell
    have q5f := hb5.frozen
    have HS5 : Hid (W5.heap.size = W3.heap.size + 1) := Lib.hid (by rw [hsz]; simp)
    have HB5 := Lib.hid hb5
    have HNO := Lib.hid hno
    have HR := Lib.hid hR
    have HFT := Lib.hid hft
    have HX := Lib.hid hx
    have g40 := guard40
    clear hsz ho1 ho2 hb5 hno hR h3 bx bm hft hx hi
    by_cases he : x = m
    · have hE : ∀ w, (binOp .eql 40 (.agg #[.int .i64 x.id, .int .i64 x.arg, .int .u8 x.kind, .int .i64 x.n]) (.agg #[.int .i64 m.id, .int .i64 m.arg, .int .u8 m.kind, .int .i64 m.n])).run Tryz.prog w = .ok (.bool true) w := fun w => by
        have := eq40 w x m; rw [decide_eq_true he] at this; exact this
      have HE := Lib.hid he
      clear he
      gi_wp2
      refine ⟨R3, ⟨fun b h => .inl h, fun b h => by have := HFT.out.lt b h; have := HS5.out; simp [World.setCell]; omega, (Only.refl _ _).setCell _ _ (fun _ => (HR.out _).2 rfl)⟩, rfl, HR.out, ?_, HB5.out.set _⟩
      rw [← HE.out]
      exact HX.out.subset (by simp)
    · have hE : ∀ w, (binOp .eql 40 (.agg #[.int .i64 x.id, .int .i64 x.arg, .int .u8 x.kind, .int .i64 x.n]) (.agg #[.int .i64 m.id, .int .i64 m.arg, .int .u8 m.kind, .int .i64 m.n])).run Tryz.prog w = .ok (.bool false) w := fun w => by
        have := eq40 w x m; rw [decide_eq_false he] at this; exact this
      have HE := Lib.hid he
      clear he
      gi_wp2
      refine ⟨R3, ⟨fun b h => .inl h, fun b h => by have := HFT.out.lt b h; have := HS5.out; omega, Only.refl _ _⟩, HR.out, HB5.out, ?_⟩
      intro q hq
      rcases List.mem_append.1 hq with hq | hq
      · exact HNO.out q hq
      · obtain rfl : q = x := by simpa using hq
        exact HE.out
  case done =>
    intro D R3 W3 hD hnD hft hJ3 hK
    obtain ⟨hR, hb, hno⟩ := hJ3
    have HB3 := Lib.hid hb
    have HR := Lib.hid hR
    have HK := Lib.hid hK
    have HND := Lib.hid hnD
    have HNO : Hid (hasMv p m = false) := Lib.hid (by
      unfold hasMv
      rw [List.any_eq_false]
      intro x hx
      simp [hno x hx])
    have q5 := hb.cell
    have q5f := hb.frozen
    have hB3 : Hid (Below w.heap.size w W3) := Lib.hid (HB0.out.trans (hft.only.below _ (by have := HZ.out; omega) (fun b hb h => by omega)))
    clear hb hR hft hK hnD hno
    gi_wp2
    have oS := (Only.refl R3 W3).setCell ⟨w.heap.size + 1 + 1, 0, none⟩ (.bool false) (fun _ => (HR.out _).2 rfl)
    have hK4 := (oS.block D (Array.getElem?_eq_some_iff.1 HK.out).1 HND.out).trans HK.out
    have o5 := (Only.refl (fun k => k = D) (W3.setCell ⟨w.heap.size + 1 + 1, 0, none⟩ (.bool false))).putObj D (.deferred none) (fun _ => rfl)
    have b0 : Boxed _ (w.heap.size + 1 + 1) 4 (.bool false) := Boxed.set (.bool false) HB3.out
    have bB : Boxed _ (w.heap.size + 1 + 1) 4 (.bool false) := (o5.block _ b0.lt (by have := HZ.out; omega)).trans b0
    refine ⟨by simp, .inl ⟨_, _, rfl, run_takeDeferred hK4, ?_⟩⟩
    exact ⟨_, results_has bB rfl, by rw [HNO.out], hB3.out.trans (((oS.mono (T := fun b => w.heap.size ≤ b) (fun b _ h => by have := (HR.out b).1 h; omega)).trans o5 (fun b _ h => by have := HZ.out; omega)).below _ hB3.out.size (fun b hb h => absurd h (by omega)))⟩
  case stop =>
    rintro D c pre R3 W3 hD hnD hpre hft ⟨rfl, hR, hm, hbb⟩ hK
    have HNO : Hid (hasMv p m = true) := Lib.hid (by
      unfold hasMv
      rw [List.any_eq_true]
      exact ⟨m, hm, by simp⟩)
    have HB3 := Lib.hid hbb
    have HK := Lib.hid hK
    have hB3 : Hid (Below w.heap.size w W3) := Lib.hid (HB0.out.trans (hft.only.below _ (by have := HZ.out; omega) (fun b hb h => by omega)))
    clear hft hbb hK hm
    gi_wp2
    have o5 := (Only.refl (fun k => k = D) W3).putObj D (.deferred none) (fun _ => rfl)
    refine ⟨by simp, .inl ⟨_, _, rfl, run_takeDeferred HK.out, ?_⟩⟩
    exact ⟨_, results_has ((o5.block _ HB3.out.lt (by have := HZ.out; omega)).trans HB3.out) rfl, by rw [HNO.out], hB3.out.trans (belowK_b (w := w) (Nat.le_refl _) W3 D _ _ (by have := HZ.out; omega) HK.out rfl rfl)⟩
end Go.Proofs.YtklfojmflmablaaGreatDoor
