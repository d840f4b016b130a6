/- Package arena: some moves of each place of which something is so. -/
import Derived.RangeFuncCalls
import Derived.Test.YtklfojmflmablaaGreatDoorArW
namespace Go.Proofs.YtklfojmflmablaaGreatDoor
open Go Go.RowKit Go.Shelf
attribute [local go_sem] Oper.semAt_some

theorem run_store_fn {P : Program} {w : World} {a : Addr} {m : Mode} (f : Fn) (x y : Array Value) : (store a (.func f x y) m).run P w = stored P w a (.func f x y) m := run_store P w a _ m rfl
attribute [local go_sem] run_store_fn

/-- A function value that hands some moves of a place on. -/
def SomeFn (fv : Value) (sm : Pl → List Mv) : Prop :=
  ∃ k, fv = .func (.func k) #[] #[] ∧ (∀ args w, (callFunc k args).run Tryz.prog w = .ok (.enter k args) w) ∧
    ∀ p : Pl, p.b.n ≤ 9223372036854775807 → ∀ w, Iters Tryz.prog k (fun y => #[plV p, y]) (fun m => #[mvV m]) (sm p) (fun _ => False) w
theorem moves_some : SomeFn (.func (.func 74) #[] #[]) movesOf := ⟨74, rfl, enters_of Tryz.func74 (by kernel_rfl) rfl, placeMoves_iters⟩
theorem quests_some : SomeFn (.func (.func 93) #[] #[]) quests := ⟨93, rfl, enters_of Tryz.func93 (by kernel_rfl) rfl, questions_iters⟩
theorem told_some : SomeFn (.func (.func 89) #[] #[]) tellOf := ⟨89, rfl, enters_of Tryz.func89 (by kernel_rfl) rfl, told_iters⟩
theorem done_some : SomeFn (.func (.func 90) #[] #[]) doneOf := ⟨90, rfl, enters_of Tryz.func90 (by kernel_rfl) rfl, done_iters⟩

def accMv (so : Pl → Bool) (sm : Pl → List Mv) (pre : List Pl) : List Mv := (pre.filter so).flatMap sm
theorem accMv_snoc (so : Pl → Bool) (sm : Pl → List Mv) (pre : List Pl) (x : Pl) : accMv so sm (pre ++ [x]) = accMv so sm pre ++ (if so x then sm x else []) := by
  unfold accMv
  rw [List.filter_append, List.flatMap_append]
  congr 1
  by_cases h : so x = true <;> simp [h]
theorem accMv_le {so : Pl → Bool} {sm : Pl → List Mv} {pre l : List Pl} (h : pre <+: l) : (accMv so sm pre).length ≤ (accMv so sm l).length := by
  obtain ⟨r, rfl⟩ := h
  unfold accMv
  rw [List.filter_append, List.flatMap_append, List.length_append]
  omega

theorem add_eats (n₀ bl B : Nat) (base l : List Mv) (hB : n₀ ≤ B) (hl : (base ++ l).length ≤ 100000) :
    Eats Tryz.prog B (.func (.func 152) #[] #[.pointer (some ⟨bl, 0, none⟩)]) (fun m => #[mvV m]) l
      (fun pre R W => Acc n₀ bl 32 40 4 (base ++ pre).length (mvCells (base ++ pre)) R W) (fun _ _ _ => False) where
  form := .inl ⟨152, _, rfl, enters_of Tryz.func152 (by kernel_rfl) rfl⟩
  stable := fun _ _ _ _ hj ho => hj.stable ho
  stablex := fun _ _ _ _ hj _ => hj
  take := by
    intro pre x R W hp hw hj hlt
    refine .inl ⟨152, _, rfl, enters_of Tryz.func152 (by kernel_rfl) rfl, ?_⟩
    have h1 : (base ++ pre).length ≤ 100000 := by have := hp.length_le; simp at this hl ⊢; omega
    refine (add_any x n₀ bl (base ++ pre) R W (by omega) h1 hj).mono ?_
    rintro e W' ⟨rfl, R', hA, hF⟩
    rw [List.append_assoc] at hA
    exact ⟨R', hF, .inl ⟨rfl, hA⟩⟩

set_option maxRecDepth 100000 in
set_option maxHeartbeats 2000000 in
theorem moves_any (v : Value) (a : Ar) (fv : Value) (so : Pl → Bool) (fv2 : Value) (sm : Pl → List Mv) (w : World) (hs : smallAr a) (hb : ∀ p ∈ places a, p.b.n ≤ 9223372036854775807) (hlen : (movesBy a so sm).length ≤ 100000)
    (hv : TyIn w w.heap.size v a.ids) (hf : SoFn fv so w.heap.size w) (h2 : SomeFn fv2 sm) :
    Calls Tryz.prog 72 #[arV v a.root a.jumps, fv, fv2] w fun e w' => ∃ v', e = .returned v' ∧ Below w.heap.size w w' ∧ w'.ownsRow w.heap.size 40 4 v' (movesBy a so sm).length (mvCells (movesBy a so sm)) := by
  obtain ⟨k, cp, rfl, ek, hso⟩ := hf
  obtain ⟨k2, rfl, ek2, hsm⟩ := h2
  have HSO := Lib.hid hso
  have HSM := Lib.hid hsm
  have HS := Lib.hid hs
  have HBN := Lib.hid hb
  have HLEN := Lib.hid hlen
  obtain ⟨A, cap, rfl, hA⟩ := hv
  have HV : Hid (TyIn w w.heap.size (.slice A a.ids.length cap) a.ids) := Lib.hid ⟨A, cap, rfl, hA⟩
  clear hso hsm hs hb hlen hA
  obtain ⟨Wa, hWa⟩ : ∃ Wa, (((w.alloc (.cells #[.slice A a.ids.length cap, .bool a.root.cell, .int .i64 a.root.n, .bool a.jumps] 105)).alloc (.cells #[.func (.func k) #[] cp] 107)).alloc (.cells #[.func (.func k2) #[] #[]] 108)).alloc (.cells #[.slice none 0 0] 32) = Wa := ⟨_, rfl⟩
  have za : Wa.heap.size = w.heap.size + 1 + 1 + 1 + 1 := by rw [← hWa]; simp
  have oa : Below w.heap.size w Wa := by rw [← hWa]; exact ((((Below.refl _ w).alloc (Nat.le_refl _) _).alloc (by simp) _).alloc (by simp; omega) _).alloc (by simp; omega) _
  have x0 : Wa.heap[w.heap.size]? = some (.cells #[.slice A a.ids.length cap, .bool a.root.cell, .int .i64 a.root.n, .bool a.jumps] 105 (0, 0)) := by
    rw [← hWa, Below.heap_alloc _ _ _ (by simp; omega), Below.heap_alloc _ _ _ (by simp; omega), Below.heap_alloc _ _ _ (by simp)]; exact World.alloc_heap_new w _
  have x1 : Boxed Wa (w.heap.size + 1) 107 (.func (.func k) #[] cp) := by
    rw [← hWa]; refine Boxed.alloc (Boxed.alloc ?_ _) _; have := Boxed.new (w.alloc (.cells #[.slice A a.ids.length cap, .bool a.root.cell, .int .i64 a.root.n, .bool a.jumps] 105)) 107 (.func (.func k) #[] cp); rwa [World.size_alloc] at this
  have x2 : Boxed Wa (w.heap.size + 1 + 1) 108 (.func (.func k2) #[] #[]) := by
    rw [← hWa]; refine Boxed.alloc ?_ _; have := Boxed.new ((w.alloc (.cells #[.slice A a.ids.length cap, .bool a.root.cell, .int .i64 a.root.n, .bool a.jumps] 105)).alloc (.cells #[.func (.func k) #[] cp] 107)) 108 (.func (.func k2) #[] #[]); rwa [World.size_alloc, World.size_alloc] at this
  have x3 : Boxed Wa (w.heap.size + 1 + 1 + 1) 32 (.slice none 0 0) := by
    rw [← hWa]; have := Boxed.new (((w.alloc (.cells #[.slice A a.ids.length cap, .bool a.root.cell, .int .i64 a.root.n, .bool a.jumps] 105)).alloc (.cells #[.func (.func k) #[] cp] 107)).alloc (.cells #[.func (.func k2) #[] #[]] 108)) 32 (.slice none 0 0); rwa [World.size_alloc, World.size_alloc, World.size_alloc] at this
  have n4 := Boxed.new Wa 117 .nilFunc
  have n4c := n4.cell
  have n4f := n4.frozen
  obtain ⟨W0, hW0⟩ : ∃ W0, (Wa.alloc (.cells #[.nilFunc] 117)).setCell ⟨Wa.heap.size, 0, none⟩ (.func (.func 152) #[] #[.pointer (some ⟨w.heap.size + 1 + 1 + 1, 0, none⟩)]) = W0 := ⟨_, rfl⟩
  have o0 : Only (fun _ => False) Wa W0 := by rw [← hW0]; exact ((Only.refl _ _).alloc _).setCell _ _ (fun h => absurd h (Nat.lt_irrefl _))
  have z0 : W0.heap.size = w.heap.size + 5 := by rw [← hW0]; simp [World.setCell, za]
  have y0 := (o0.block _ (by omega) (fun f => f)).trans x0
  have y1 : Boxed W0 _ _ _ := (o0.block _ (by omega) (fun f => f)).trans x1
  have y2 : Boxed W0 _ _ _ := (o0.block _ (by omega) (fun f => f)).trans x2
  have y3 : Boxed W0 _ _ _ := (o0.block _ (by omega) (fun f => f)).trans x3
  have y4 : Boxed W0 Wa.heap.size 117 (.func (.func 152) #[] #[.pointer (some ⟨w.heap.size + 1 + 1 + 1, 0, none⟩)]) := by rw [← hW0]; exact n4.set _
  have HB0 : Hid (Below w.heap.size w W0) := Lib.hid (oa.trans (o0.below _ oa.size (fun _ _ f => f)))
  have HZ := Lib.hid z0
  have HY0 := Lib.hid y0
  have HY1 := Lib.hid y1
  have HY2 := Lib.hid y2
  have HY3 := Lib.hid y3
  have HY4 := Lib.hid y4
  have HZA := Lib.hid za
  have c0 := cell_of_row W0 _ 0 _ 105 (0, 0) y0
  have c1 := cell_of_row W0 _ 1 _ 105 (0, 0) y0
  have c2 := cell_of_row W0 _ 2 _ 105 (0, 0) y0
  have c3 := cell_of_row W0 _ 3 _ 105 (0, 0) y0
  clear za oa x0 x1 x2 x3 n4 o0 z0 y0 y1 y2 y3 y4
  unfold arV
  refine (callsIn_wide (n := 3)).1 ?_
  refine callsIn_of_wp_marks Tryz.func72 rfl trivial ?_ rfl
  simp only [Tryz.ntmps72, List.size_toArray, List.length_cons, List.length_nil, Nat.reduceAdd, Nat.reduceSub, Array.replicate_succ, Array.replicate_zero, List.push_toArray, List.append_toArray, List.nil_append, List.cons_append]
  gi_wp2
  have HIT : Hid (Iters Tryz.prog 153 (fun y => (#[.agg #[.slice A a.ids.length cap, .bool a.root.cell, .int .i64 a.root.n, .bool a.jumps]] ++ #[y]) ++ #[]) (fun p => #[plV p]) (places a) (fun b => b < w.heap.size) W0) := Lib.hid (by
    have := places_iters (.slice A a.ids.length cap) a w.heap.size W0 HS.out (by have := HZ.out; omega) (HV.out.below HB0.out.block)
    unfold arV at this
    simpa using this)
  clear n4c n4f
  refine wpIn_range (gf := 153) (lb := #[]) rfl (enters_of Tryz.func153 (by kernel_rfl) rfl) HIT.out (fun _ => rfl)
    (fun pre R W => Acc w.heap.size (w.heap.size + 1 + 1 + 1) 32 40 4 (accMv so sm pre).length (mvCells (accMv so sm pre)) R W) (fun _ _ _ _ => False)
    (fun _ _ _ _ hj ho => hj.stable ho) (fun _ _ _ _ _ hj _ => hj)
    (fun b => b = w.heap.size + 1 + 1 + 1) (fun b hb => by have := HZ.out; omega) (fun b hb => by have := HZ.out; omega) (fun b hb => by omega) (Acc.new _ _ 32 40 4 HY3.out) ?round ?done ?stop
  case round =>
    intro l pre x R3 W3 hx hft hi hnl hlt hle
    unfold plV
    gi_wp2
    refine ⟨(Only.refl _ _).alloc _, fun W5 hsz ho1 ho2 hi5 => ?_⟩
    have nR : ∀ b, b < w.heap.size + 5 → b ≠ w.heap.size + 1 + 1 + 1 → ¬ R3 b := fun b hb hne h => (hft.sub b h).elim hne (fun h => absurd hb (by have := HZ.out; omega))
    have keep5 : ∀ (b : Nat) (o : Obj), W0.heap[b]? = some o → b ≠ w.heap.size + 1 + 1 + 1 → W5.heap[b]? = some o := fun b o hb hne => by
      have hlt := (Array.getElem?_eq_some_iff.1 hb).1
      have h3 := hft.box hb (fun h => hne h)
      exact (ho2.block b (Array.getElem?_eq_some_iff.1 h3).1 (by have := HZ.out; omega)).trans h3
    have bp : BoxP W5 W3.heap.size x := (BoxP.new W3 x).only ho1 (by omega)
    have y1 : Boxed W5 _ _ _ := keep5 _ _ HY1.out (by omega)
    have y2 : Boxed W5 _ _ _ := keep5 _ _ HY2.out (by omega)
    have y4 : Boxed W5 _ _ _ := keep5 _ _ HY4.out (by have := HZA.out; omega)
    have p0 := bp.c0
    have p1 := bp.c1
    have p2 := bp.c2
    have p3 := bp.c3
    have p4 := bp.c4
    have cy1 := y1.cell
    have cy2 := y2.cell
    have cy4 := y4.cell
    have HS5 : Hid (W5.heap.size = W3.heap.size + 1) := Lib.hid (by rw [hsz]; simp)
    have HBP := Lib.hid bp
    have HY2' := Lib.hid y2
    have HY4' := Lib.hid y4
    have HI5 := Lib.hid hi5
    have HFT := Lib.hid hft
    have HX := Lib.hid hx
    have HLOW : Hid (∀ b, b < w.heap.size → W5.heap[b]? = w.heap[b]?) := Lib.hid fun b hb => by
      have h0 := HB0.out.block b hb
      have hb' : W0.heap[b]? = some (w.heap[b]'hb) := h0.trans (Array.getElem?_eq_getElem hb)
      rw [keep5 b _ hb' (by omega)]
      exact (Array.getElem?_eq_getElem hb).symm
    have CK : Hid (CallsIn (Fence.wide.inRound l) 2 Tryz.prog k (#[plV x] ++ cp) W5 fun e W' => e = .returned (.bool (so x)) ∧ Below W5.heap.size W5 W') := Lib.hid (CallsIn.inRound l (callsIn_wide.2 (HSO.out W5 HLOW.out x)))
    unfold plV at CK
    clear hsz ho1 ho2 hi5 keep5 bp y1 y2 y4 hft hx hi
    cases hso : so x with
    | true =>
      rw [hso] at CK
      have HSOX := Lib.hid hso
      clear hso
      have CS : Hid (∀ W6, Below W5.heap.size W5 W6 → CallsIn (Fence.wide.inRound l) 2 Tryz.prog k2 #[plV x, .func (.func 152) #[] #[.pointer (some ⟨w.heap.size + 1 + 1 + 1, 0, none⟩)]] W6 fun e W' =>
          (∃ v, e = .returned v) ∧ ∃ R', Foot R3 W6 R' W' ∧ Acc w.heap.size (w.heap.size + 1 + 1 + 1) 32 40 4 (accMv so sm (pre ++ [x])).length (mvCells (accMv so sm (pre ++ [x]))) R' W') := Lib.hid fun W6 hb6 => by
        have hxm : x ∈ places a := HX.out.subset (by simp)
        have hW6 : w.heap.size ≤ W6.heap.size := by have := hb6.size; have := HS5.out; have := HFT.out.only.size; have := HZ.out; omega
        have e1 : accMv so sm (pre ++ [x]) = accMv so sm pre ++ sm x := by rw [accMv_snoc, HSOX.out]; simp
        have hl : (accMv so sm pre ++ sm x).length ≤ 100000 := by rw [← e1]; exact Nat.le_trans (accMv_le HX.out) HLEN.out
        have hJ6 : Acc w.heap.size (w.heap.size + 1 + 1 + 1) 32 40 4 (accMv so sm pre ++ []).length (mvCells (accMv so sm pre ++ [])) R3 W6 := by
          rw [List.append_nil]; exact HI5.out.stable (B := 0) ((Only.of_below (S := fun _ => False) hb6).mono fun _ _ f => f.elim)
        refine CallsIn.inRound l (callsIn_wide.2 ((HSM.out x (HBN.out x hxm) W6 _ _ _ R3 W6 (add_eats w.heap.size (w.heap.size + 1 + 1 + 1) W6.heap.size (accMv so sm pre) (sm x) hW6 hl) (Nat.le_refl _) (fun _ f => f.elim) (fun _ _ f => f) (fun b h => by have := HFT.out.lt b h; have := HS5.out; have := hb6.size; omega) hJ6).mono ?_))
        rintro e W' ⟨he, R', hF, hj | ⟨q, _, hj⟩⟩
        · rw [e1]; exact ⟨he, R', hF, hj⟩
        · exact hj.elim
      unfold plV at CS
      gi_wp2_with (first
        | (refine ⟨trivial, ?_⟩; gi_at_fn k; refine CK.out.mono ?_; rintro e W6 ⟨rfl, hb6⟩; have y2 : Boxed W6 _ _ _ := (hb6.block _ HY2'.out.lt).trans HY2'.out; have y4 : Boxed W6 _ _ _ := (hb6.block _ HY4'.out.lt).trans HY4'.out; have bp : BoxP W6 _ _ := (hb6.block _ HBP.out.lt).trans HBP.out; have cy2 := y2.cell; have cy4 := y4.cell; have p0 := bp.c0; have p1 := bp.c1; have p2 := bp.c2; have p3 := bp.c3; have p4 := bp.c4; clear y2 y4 bp)
        | (refine ⟨trivial, ?_⟩; gi_at_fn k2; refine (CS.out _ hb6).mono ?_; rintro e W7 ⟨⟨v7, rfl⟩, R7, hf7, hA7⟩))
      exact ⟨R7, Foot.after (Only.of_below hb6) hf7, hA7⟩
    | false =>
      rw [hso] at CK
      have HSOX := Lib.hid hso
      clear hso
      gi_wp2_with (refine ⟨trivial, ?_⟩; gi_at_fn k; refine CK.out.mono ?_; rintro e W6 ⟨rfl, hb6⟩)
      refine ⟨R3, ⟨fun b h => .inl h, fun b h => by have := HFT.out.lt b h; have := HS5.out; have := hb6.size; omega, Only.of_below hb6⟩, ?_⟩
      dsimp only
      rw [accMv_snoc, HSOX.out]
      simp only [Bool.false_eq_true, if_false, List.append_nil]
      exact HI5.out.stable (B := 0) ((Only.of_below (S := fun _ => False) hb6).mono fun _ _ f => f.elim)
  case done =>
    intro D R3 W3 hD hnD hft hJ3 hK
    obtain ⟨v3, hv3, hr3, hR3⟩ := hJ3
    have cv3 := hv3.cell
    have HR3 := Lib.hid hr3
    have HFT := Lib.hid hft
    have HK := Lib.hid hK
    clear hr3 hft hK
    gi_wp2
    have hB3 : Below w.heap.size w W3 := HB0.out.trans (HFT.out.only.below _ (by have := HZ.out; omega) (fun b hb h => by omega))
    refine ⟨by simp, .inl ⟨_, _, rfl, run_takeDeferred HK.out, ?_⟩⟩
    exact ⟨_, results_tmp rfl _ _ _, v3, rfl, hB3.trans (belowK_b (w := w) (Nat.le_refl _) W3 D _ _ (by have := HZ.out; omega) HK.out rfl rfl), ownsRow_putObj HR3.out _ HK.out rfl⟩
  case stop =>
    rintro D c pre R3 W3 hD hnD hpre hft h hK
    exact h.elim
end Go.Proofs.YtklfojmflmablaaGreatDoor
