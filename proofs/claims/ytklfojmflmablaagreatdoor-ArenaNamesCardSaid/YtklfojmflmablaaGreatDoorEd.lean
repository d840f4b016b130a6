/- Package arena: each, from base types to types. -/
import Derived.RangeFuncCalls
import Derived.Shelf.RegionOpen
import Derived.Test.YtklfojmflmablaaGreatDoorVl
namespace Go.Proofs.YtklfojmflmablaaGreatDoor
open Go Go.RowKit Go.Shelf
attribute [local go_sem] Oper.semAt_some

/-- append, shut: so that an equation for its run is met in a region that draws its order. -/
def appShut (ats : Array TypeId) (ty : TypeId) (args : Array Value) : Sem Value := Builtin.append_ ats ty args
theorem append_shut (ats : Array TypeId) (ty : TypeId) (args : Array Value) : Builtin.append_ ats ty args = appShut ats ty args := rfl
attribute [local go_sem ↓] append_shut

theorem cells_newE (w : World) (t : TypeId) (cs : List Value) : ∀ j u, cs[j]? = some u → (w.alloc (.cells cs.toArray t)).cell? (Addr.add ⟨w.heap.size, 0, none⟩ j) = some u := by
  intro j u hu
  have hadd : (⟨w.heap.size, 0, none⟩ : Addr).add j = ⟨w.heap.size, j, none⟩ := by unfold Addr.add; split <;> simp_all
  rw [hadd, cell_of_row _ _ j _ t (0, 0) (World.alloc_heap_new w _)]
  simpa using hu

theorem info64 : (Tryz.prog.info? 64).map (fun i => (i.zero, i.size, i.bytes)) = some (some (.agg #[.slice none 0 0, .bool false, .int .i64 0]), 3, 40) := by kernel_rfl
theorem info9 : (Tryz.prog.info? 9).map (fun i => (i.zero, i.size, i.bytes)) = some (some (.string ByteArray.empty), 1, 16) := by kernel_rfl
theorem row_below {W W' : World} {n₀ k size : Nat} {e : TypeId} {v : Value} {xs : List Value} (h : W.ownsRow n₀ e size v k xs) (hb : Below W.heap.size W W') : W'.ownsRow n₀ e size v k xs := by
  refine ⟨h.1, ?_⟩
  rcases h.2 with hn | ⟨g, cap, cur, e, hb', hg, rest⟩
  · exact .inl hn
  · exact .inr ⟨g, cap, cur, e, hb', (hb.block g (Array.getElem?_eq_some_iff.1 hg).1).trans hg, rest⟩
def tyOfCells (x : Bs) : List Value := [.slice none 0 0, .bool x.cell, .int .i64 x.n]

set_option maxRecDepth 100000 in
set_option maxHeartbeats 2000000 in
theorem eachTy_any (k B : Nat) (l : List Bs) (v : Value) (w : World) (ek : ∀ args w, (callFunc k args).run Tryz.prog w = .ok (.enter k args) w) (hB : B < w.heap.size) (hb : Boxed w B 62 v) (hv : RowIn bsCells 2 w w.heap.size v l) (hl : l.length ≤ 1000)
    (hk : ∀ W x, Calls Tryz.prog k #[bsV x] W fun e W' => e = .returned (tyV (.slice none 0 0) x) ∧ Below W.heap.size W W') :
    Calls Tryz.prog 102 #[.func (.func 167) #[] #[.pointer (some ⟨B, 0, none⟩)], .func (.func k) #[] #[]] w fun e w' => ∃ v', e = .returned v' ∧ Below w.heap.size w w' ∧ w'.ownsRow w.heap.size 64 3 v' l.length (l.flatMap tyOfCells) := by
  have HK := Lib.hid hk
  have HL := Lib.hid hl
  have HV := Lib.hid hv
  have HBX := Lib.hid hb
  have HBL := Lib.hid hB
  obtain ⟨i0, hi, hz0, hz1, hz2⟩ := info_parts info64
  obtain ⟨W0, hW0⟩ : ∃ W0, (w.alloc (.cells #[.func (.func k) #[] #[]] 130)).alloc (.cells #[.slice none 0 0] 22) = W0 := ⟨_, rfl⟩
  have z0 : W0.heap.size = w.heap.size + 1 + 1 := by rw [← hW0]; simp
  have o0 : Below w.heap.size w W0 := by rw [← hW0]; exact ((Below.refl _ w).alloc (Nat.le_refl _) _).alloc (by simp) _
  have x0 : Boxed W0 w.heap.size 130 (.func (.func k) #[] #[]) := by rw [← hW0]; exact (Boxed.new w 130 _).alloc _
  have x1 : Boxed W0 (w.heap.size + 1) 22 (.slice none 0 0) := by
    rw [← hW0]; have := Boxed.new (w.alloc (.cells #[.func (.func k) #[] #[]] 130)) 22 (.slice none 0 0); rwa [World.size_alloc] at this
  have HZ := Lib.hid z0
  have HB0 := Lib.hid o0
  have HX0 := Lib.hid x0
  have HX1 := Lib.hid x1
  clear hk hl hv hb hB z0 o0 x0 x1
  refine (callsIn_wide (n := 3)).1 ?_
  refine callsIn_of_wp_marks Tryz.func102 rfl trivial ?_ rfl
  simp only [Tryz.ntmps102, List.size_toArray, List.length_cons, List.length_nil, Nat.reduceAdd, Nat.reduceSub, Array.replicate_succ, Array.replicate_zero, List.push_toArray, List.append_toArray, List.nil_append, List.cons_append]
  gi_wp2
  have HIT : Hid (Iters Tryz.prog 167 (fun y => (#[] ++ #[y]) ++ #[.pointer (some ⟨B, 0, none⟩)]) (fun x => #[bsV x]) l (fun b => b < w.heap.size) W0) := Lib.hid (by
    have := valuesBs_iters v l B w.heap.size W0 (by have := HZ.out; omega) HBL.out ((HB0.out.block _ HBL.out).trans HBX.out) (by
      obtain ⟨A, c, e, hA⟩ := HV.out
      refine ⟨A, c, e, fun i x hx => ?_⟩
      obtain ⟨b, off, e1, hbn, hc⟩ := hA i x hx
      exact ⟨b, off, e1, hbn, fun j u hu => (World.cell?_of_block (HB0.out.block _ hbn)).trans (hc j u hu)⟩) (by have := HL.out; omega)
    simpa using this)
  refine wpIn_range (gf := 167) (first := #[]) (lb := #[.pointer (some ⟨B, 0, none⟩)]) rfl (enters_of Tryz.func167 (by kernel_rfl) rfl) HIT.out (fun _ => rfl)
    (fun pre R W => Acc w.heap.size (w.heap.size + 1) 22 64 3 pre.length (pre.flatMap tyOfCells) R W) (fun _ _ _ _ => False)
    (fun _ _ _ _ hj ho => hj.stable ho) (fun _ _ _ _ _ hj _ => hj)
    (fun b => b = w.heap.size + 1) (fun b hb => by have := HZ.out; omega) (fun b hb => by have := HZ.out; omega) (fun b hb => by omega) (Acc.new _ _ 22 64 3 HX1.out) ?round ?done ?stop
  case round =>
    intro ln pre x R3 W3 hx hft hi hnl hlt hle
    unfold bsV
    gi_wp2
    refine ⟨(Only.refl _ _).alloc _, fun W5 hsz ho1 ho2 hi5 => ?_⟩
    obtain ⟨va, hva, hra, hRa⟩ := hi5
    have bx0 : (W3.alloc (.cells #[.bool x.cell, .int .i64 x.n] 24)).heap[W3.heap.size]? = some (.cells #[.bool x.cell, .int .i64 x.n] 24 (0, 0)) := World.alloc_heap_new W3 _
    have bx := (ho1.block _ (by simp) (by omega)).trans bx0
    have h3 := hft.box HX0.out (by omega)
    have bk : Boxed W5 w.heap.size 130 (.func (.func k) #[] #[]) := (ho2.block _ (Array.getElem?_eq_some_iff.1 h3).1 (by have := HZ.out; omega)).trans h3
    have p0 := cell_of_row W5 _ 0 _ 24 (0, 0) bx
    have p1 := cell_of_row W5 _ 1 _ 24 (0, 0) bx
    have ck := bk.cell
    have ca := hva.cell
    have fa := hva.frozen
    have HS5 : Hid (W5.heap.size = W3.heap.size + 1) := Lib.hid (by rw [hsz]; simp)
    have HVA := Lib.hid hva
    have HRA := Lib.hid hra
    have HR := Lib.hid hRa
    have HFT := Lib.hid hft
    have HX := Lib.hid hx
    have CK : Hid (∀ W, CallsIn (Fence.wide.inRound ln) 2 Tryz.prog k #[bsV x] W fun e W' => e = .returned (tyV (.slice none 0 0) x) ∧ Below W.heap.size W W') := Lib.hid fun W => CallsIn.inRound ln (callsIn_wide.2 (HK.out W x))
    unfold bsV tyV at CK
    clear hsz ho1 ho2 hva hra hRa bx0 bx h3 bk hft hx hi
    have hmx : Tryz.prog.follows .mixedOrders = true := by kernel_rfl
    have HPL : Hid (pre.length ≤ 1000) := Lib.hid (by have := HX.out.length_le; have := HL.out; simp at *; omega)
    gi_wp2
    gi_region_with_o (refine ⟨trivial, ?_⟩; gi_at_fn k; refine (CK.out _).mono ?_; rintro e W6 ⟨rfl, hb6⟩; have hb56 : Below W5.heap.size W5 W6 := ((Below.refl _ W5).drew).trans hb6; have hv6 : Boxed W6 _ _ _ := (hb56.block _ HVA.out.lt).trans HVA.out; have ca6 := hv6.cell; have fa6 := hv6.frozen; have hv7 := hv6.alloc (.cells #[.slice none 0 0, .bool x.cell, .int .i64 x.n] 64); have ca7 := hv7.cell; have fa7 := hv7.frozen; clear hv6 hv7; obtain ⟨v', w8, hrun, hown', hgrow, _, hat⟩ := run_append_own_at (P := Tryz.prog) (W6.alloc (.cells #[.slice none 0 0, .bool x.cell, .int .i64 x.n] 64)) w.heap.size 22 22 64 i0 _ 3 40 Tryz.underlying22 hi hz0 hz1 hz2 rfl (by decide) va pre.length (pre.flatMap tyOfCells) ((row_below HRA.out hb56).alloc _) ⟨W6.heap.size, 0, none⟩ 1 1 [.slice none 0 0, .bool x.cell, .int .i64 x.n] rfl (cells_newE _ _ _) (by simp [Value.oneCell']) (by have := HPL.out; unfold maxLen; omega) (by have := HPL.out; omega) (by have := HB0.out.size; have := HFT.out.only.size; have := HS5.out; have := hb56.size; simp; omega); obtain ⟨g', cap', rfl⟩ := ownsRow_succ hown'; rw [append_shut] at hrun; obtain ⟨hb8, R', hA, hF⟩ := Acc.appended (by decide) HVA.out HRA.out HR.out ((Only.of_below (S := fun _ => False) hb56).alloc _) hown' hgrow hat; have cb8 := hb8.cell; have fb8 := hb8.frozen)
    all_goals gi_wp2
    all_goals (refine ⟨R', hF, ?_⟩; dsimp only; rw [List.length_append, List.flatMap_append, List.flatMap_cons, List.flatMap_nil, List.append_nil]; exact hA)
  case done =>
    intro D R3 W3 hD hnD hft hJ3 hK
    obtain ⟨v3, hv3, hr3, hR3⟩ := hJ3
    have cv3 := hv3.cell
    have HR3 := Lib.hid hr3
    have HFT := Lib.hid hft
    have HKK := Lib.hid hK
    clear hr3 hft hK
    gi_wp2
    have hB3 : Below w.heap.size w W3 := HB0.out.trans (HFT.out.only.below _ (by have := HZ.out; omega) (fun b hb h => by omega))
    refine ⟨by simp, .inl ⟨_, _, rfl, run_takeDeferred HKK.out, ?_⟩⟩
    exact ⟨_, results_tmp rfl _ _ _, v3, rfl, hB3.trans (belowK_b (w := w) (Nat.le_refl _) W3 D _ _ (by have := HZ.out; omega) HKK.out rfl rfl), ownsRow_putObj HR3.out _ HKK.out rfl⟩
  case stop =>
    rintro D c pre R3 W3 hD hnD hpre hft h hK
    exact h.elim

set_option maxRecDepth 100000 in
set_option maxHeartbeats 2000000 in
theorem eachBsStr_any (k B : Nat) (l : List Bs) (v : Value) (w : World) (ek : ∀ args w, (callFunc k args).run Tryz.prog w = .ok (.enter k args) w) (hB : B < w.heap.size) (hb : Boxed w B 62 v) (hv : RowIn bsCells 2 w w.heap.size v l) (hl : l.length ≤ 1000)
    (f : Bs → ByteArray) (hk : ∀ W x, Calls Tryz.prog k #[bsV x] W fun e W' => e = .returned (.string (f x)) ∧ Below W.heap.size W W') :
    Calls Tryz.prog 198 #[.func (.func 167) #[] #[.pointer (some ⟨B, 0, none⟩)], .func (.func k) #[] #[]] w fun e w' => ∃ v', e = .returned v' ∧ Below w.heap.size w w' ∧ w'.ownsRow w.heap.size 9 1 v' l.length (l.flatMap (fun x => [Value.string (f x)])) := by
  have HK := Lib.hid hk
  have HL := Lib.hid hl
  have HV := Lib.hid hv
  have HBX := Lib.hid hb
  have HBL := Lib.hid hB
  obtain ⟨i0, hi, hz0, hz1, hz2⟩ := info_parts info9
  obtain ⟨W0, hW0⟩ : ∃ W0, (w.alloc (.cells #[.func (.func k) #[] #[]] 114)).alloc (.cells #[.slice none 0 0] 147) = W0 := ⟨_, rfl⟩
  have z0 : W0.heap.size = w.heap.size + 1 + 1 := by rw [← hW0]; simp
  have o0 : Below w.heap.size w W0 := by rw [← hW0]; exact ((Below.refl _ w).alloc (Nat.le_refl _) _).alloc (by simp) _
  have x0 : Boxed W0 w.heap.size 114 (.func (.func k) #[] #[]) := by rw [← hW0]; exact (Boxed.new w 114 _).alloc _
  have x1 : Boxed W0 (w.heap.size + 1) 147 (.slice none 0 0) := by
    rw [← hW0]; have := Boxed.new (w.alloc (.cells #[.func (.func k) #[] #[]] 114)) 147 (.slice none 0 0); rwa [World.size_alloc] at this
  have HZ := Lib.hid z0
  have HB0 := Lib.hid o0
  have HX0 := Lib.hid x0
  have HX1 := Lib.hid x1
  clear hk hl hv hb hB z0 o0 x0 x1
  refine (callsIn_wide (n := 3)).1 ?_
  refine callsIn_of_wp_marks Tryz.func198 rfl trivial ?_ rfl
  simp only [Tryz.ntmps198, List.size_toArray, List.length_cons, List.length_nil, Nat.reduceAdd, Nat.reduceSub, Array.replicate_succ, Array.replicate_zero, List.push_toArray, List.append_toArray, List.nil_append, List.cons_append]
  gi_wp2
  have HIT : Hid (Iters Tryz.prog 167 (fun y => (#[] ++ #[y]) ++ #[.pointer (some ⟨B, 0, none⟩)]) (fun x => #[bsV x]) l (fun b => b < w.heap.size) W0) := Lib.hid (by
    have := valuesBs_iters v l B w.heap.size W0 (by have := HZ.out; omega) HBL.out ((HB0.out.block _ HBL.out).trans HBX.out) (by
      obtain ⟨A, c, e, hA⟩ := HV.out
      refine ⟨A, c, e, fun i x hx => ?_⟩
      obtain ⟨b, off, e1, hbn, hc⟩ := hA i x hx
      exact ⟨b, off, e1, hbn, fun j u hu => (World.cell?_of_block (HB0.out.block _ hbn)).trans (hc j u hu)⟩) (by have := HL.out; omega)
    simpa using this)
  refine wpIn_range (gf := 167) (first := #[]) (lb := #[.pointer (some ⟨B, 0, none⟩)]) rfl (enters_of Tryz.func167 (by kernel_rfl) rfl) HIT.out (fun _ => rfl)
    (fun pre R W => Acc w.heap.size (w.heap.size + 1) 147 9 1 pre.length (pre.flatMap (fun x => [Value.string (f x)])) R W) (fun _ _ _ _ => False)
    (fun _ _ _ _ hj ho => hj.stable ho) (fun _ _ _ _ _ hj _ => hj)
    (fun b => b = w.heap.size + 1) (fun b hb => by have := HZ.out; omega) (fun b hb => by have := HZ.out; omega) (fun b hb => by omega) (Acc.new _ _ 147 9 1 HX1.out) ?round ?done ?stop
  case round =>
    intro ln pre x R3 W3 hx hft hi hnl hlt hle
    unfold bsV
    gi_wp2
    refine ⟨(Only.refl _ _).alloc _, fun W5 hsz ho1 ho2 hi5 => ?_⟩
    obtain ⟨va, hva, hra, hRa⟩ := hi5
    have bx0 : (W3.alloc (.cells #[.bool x.cell, .int .i64 x.n] 24)).heap[W3.heap.size]? = some (.cells #[.bool x.cell, .int .i64 x.n] 24 (0, 0)) := World.alloc_heap_new W3 _
    have bx := (ho1.block _ (by simp) (by omega)).trans bx0
    have h3 := hft.box HX0.out (by omega)
    have bk : Boxed W5 w.heap.size 114 (.func (.func k) #[] #[]) := (ho2.block _ (Array.getElem?_eq_some_iff.1 h3).1 (by have := HZ.out; omega)).trans h3
    have p0 := cell_of_row W5 _ 0 _ 24 (0, 0) bx
    have p1 := cell_of_row W5 _ 1 _ 24 (0, 0) bx
    have ck := bk.cell
    have ca := hva.cell
    have fa := hva.frozen
    have HS5 : Hid (W5.heap.size = W3.heap.size + 1) := Lib.hid (by rw [hsz]; simp)
    have HVA := Lib.hid hva
    have HRA := Lib.hid hra
    have HR := Lib.hid hRa
    have HFT := Lib.hid hft
    have HX := Lib.hid hx
    have CK : Hid (∀ W, CallsIn (Fence.wide.inRound ln) 2 Tryz.prog k #[bsV x] W fun e W' => e = .returned (.string (f x)) ∧ Below W.heap.size W W') := Lib.hid fun W => CallsIn.inRound ln (callsIn_wide.2 (HK.out W x))
    unfold bsV at CK
    clear hsz ho1 ho2 hva hra hRa bx0 bx h3 bk hft hx hi
    have hmx : Tryz.prog.follows .mixedOrders = true := by kernel_rfl
    have HPL : Hid (pre.length ≤ 1000) := Lib.hid (by have := HX.out.length_le; have := HL.out; simp at *; omega)
    gi_wp2
    gi_region_with_o (refine ⟨trivial, ?_⟩; gi_at_fn k; refine (CK.out _).mono ?_; rintro e W6 ⟨rfl, hb6⟩; have hb56 : Below W5.heap.size W5 W6 := ((Below.refl _ W5).drew).trans hb6; have hv6 : Boxed W6 _ _ _ := (hb56.block _ HVA.out.lt).trans HVA.out; have ca6 := hv6.cell; have fa6 := hv6.frozen; have hv7 := hv6.alloc (.cells #[.string (f x)] 9); have ca7 := hv7.cell; have fa7 := hv7.frozen; clear hv6 hv7; obtain ⟨v', w8, hrun, hown', hgrow, _, hat⟩ := run_append_own_at (P := Tryz.prog) (W6.alloc (.cells #[.string (f x)] 9)) w.heap.size 147 147 9 i0 _ 1 16 Tryz.underlying147 hi hz0 hz1 hz2 rfl (by decide) va pre.length (pre.flatMap (fun x => [Value.string (f x)])) ((row_below HRA.out hb56).alloc _) ⟨W6.heap.size, 0, none⟩ 1 1 [.string (f x)] rfl (cells_newE _ _ _) (by simp [Value.oneCell']) (by have := HPL.out; unfold maxLen; omega) (by have := HPL.out; omega) (by have := HB0.out.size; have := HFT.out.only.size; have := HS5.out; have := hb56.size; simp; omega); obtain ⟨g', cap', rfl⟩ := ownsRow_succ hown'; rw [append_shut] at hrun; obtain ⟨hb8, R', hA, hF⟩ := Acc.appended (by decide) HVA.out HRA.out HR.out ((Only.of_below (S := fun _ => False) hb56).alloc _) hown' hgrow hat; have cb8 := hb8.cell; have fb8 := hb8.frozen)
    all_goals gi_wp2
    all_goals (refine ⟨R', hF, ?_⟩; dsimp only; rw [List.length_append, List.flatMap_append, List.flatMap_cons, List.flatMap_nil, List.append_nil]; exact hA)
  case done =>
    intro D R3 W3 hD hnD hft hJ3 hK
    obtain ⟨v3, hv3, hr3, hR3⟩ := hJ3
    have cv3 := hv3.cell
    have HR3 := Lib.hid hr3
    have HFT := Lib.hid hft
    have HKK := Lib.hid hK
    clear hr3 hft hK
    gi_wp2
    have hB3 : Below w.heap.size w W3 := HB0.out.trans (HFT.out.only.below _ (by have := HZ.out; omega) (fun b hb h => by omega))
    refine ⟨by simp, .inl ⟨_, _, rfl, run_takeDeferred HKK.out, ?_⟩⟩
    exact ⟨_, results_tmp rfl _ _ _, v3, rfl, hB3.trans (belowK_b (w := w) (Nat.le_refl _) W3 D _ _ (by have := HZ.out; omega) HKK.out rfl rfl), ownsRow_putObj HR3.out _ HKK.out rfl⟩
  case stop =>
    rintro D c pre R3 W3 hD hnD hpre hft h hK
    exact h.elim

set_option maxRecDepth 100000 in
set_option maxHeartbeats 2000000 in
theorem eachTyStr_any (k B : Nat) (l : List (Value × Ty)) (v : Value) (w : World) (ek : ∀ args w, (callFunc k args).run Tryz.prog w = .ok (.enter k args) w) (hB : B < w.heap.size) (hb : Boxed w B 22 v) (hv : RowIn tyCells 3 w w.heap.size v l) (hl : l.length ≤ 1000) (hsl : ∀ z ∈ l, ∃ A n c, z.1 = .slice A n c)
    (f : Value × Ty → ByteArray) (hk : ∀ W x, x ∈ l → (∀ b, b < w.heap.size → W.heap[b]? = w.heap[b]?) → Calls Tryz.prog k #[tyPV x] W fun e W' => e = .returned (.string (f x)) ∧ Below W.heap.size W W') :
    Calls Tryz.prog 155 #[.func (.func 197) #[] #[.pointer (some ⟨B, 0, none⟩)], .func (.func k) #[] #[]] w fun e w' => ∃ v', e = .returned v' ∧ Below w.heap.size w w' ∧ w'.ownsRow w.heap.size 9 1 v' l.length (l.flatMap (fun x => [Value.string (f x)])) := by
  have HK := Lib.hid hk
  have HSL := Lib.hid hsl
  have HL := Lib.hid hl
  have HV := Lib.hid hv
  have HBX := Lib.hid hb
  have HBL := Lib.hid hB
  obtain ⟨i0, hi, hz0, hz1, hz2⟩ := info_parts info9
  obtain ⟨W0, hW0⟩ : ∃ W0, (w.alloc (.cells #[.func (.func k) #[] #[]] 115)).alloc (.cells #[.slice none 0 0] 147) = W0 := ⟨_, rfl⟩
  have z0 : W0.heap.size = w.heap.size + 1 + 1 := by rw [← hW0]; simp
  have o0 : Below w.heap.size w W0 := by rw [← hW0]; exact ((Below.refl _ w).alloc (Nat.le_refl _) _).alloc (by simp) _
  have x0 : Boxed W0 w.heap.size 115 (.func (.func k) #[] #[]) := by rw [← hW0]; exact (Boxed.new w 115 _).alloc _
  have x1 : Boxed W0 (w.heap.size + 1) 147 (.slice none 0 0) := by
    rw [← hW0]; have := Boxed.new (w.alloc (.cells #[.func (.func k) #[] #[]] 115)) 147 (.slice none 0 0); rwa [World.size_alloc] at this
  have HZ := Lib.hid z0
  have HB0 := Lib.hid o0
  have HX0 := Lib.hid x0
  have HX1 := Lib.hid x1
  clear hsl hk hl hv hb hB z0 o0 x0 x1
  refine (callsIn_wide (n := 3)).1 ?_
  refine callsIn_of_wp_marks Tryz.func155 rfl trivial ?_ rfl
  simp only [Tryz.ntmps155, List.size_toArray, List.length_cons, List.length_nil, Nat.reduceAdd, Nat.reduceSub, Array.replicate_succ, Array.replicate_zero, List.push_toArray, List.append_toArray, List.nil_append, List.cons_append]
  gi_wp2
  have HIT : Hid (Iters Tryz.prog 197 (fun y => (#[] ++ #[y]) ++ #[.pointer (some ⟨B, 0, none⟩)]) (fun x => #[tyPV x]) l (fun b => b < w.heap.size) W0) := Lib.hid (by
    have := valuesTy_iters v l B w.heap.size W0 (by have := HZ.out; omega) HBL.out ((HB0.out.block _ HBL.out).trans HBX.out) (by
      obtain ⟨A, c, e, hA⟩ := HV.out
      refine ⟨A, c, e, fun i x hx => ?_⟩
      obtain ⟨b, off, e1, hbn, hc⟩ := hA i x hx
      exact ⟨b, off, e1, hbn, fun j u hu => (World.cell?_of_block (HB0.out.block _ hbn)).trans (hc j u hu)⟩) (by have := HL.out; omega) HSL.out
    simpa using this)
  refine wpIn_range (gf := 197) (first := #[]) (lb := #[.pointer (some ⟨B, 0, none⟩)]) rfl (enters_of Tryz.func197 (by kernel_rfl) rfl) HIT.out (fun _ => rfl)
    (fun pre R W => Acc w.heap.size (w.heap.size + 1) 147 9 1 pre.length (pre.flatMap (fun x => [Value.string (f x)])) R W) (fun _ _ _ _ => False)
    (fun _ _ _ _ hj ho => hj.stable ho) (fun _ _ _ _ _ hj _ => hj)
    (fun b => b = w.heap.size + 1) (fun b hb => by have := HZ.out; omega) (fun b hb => by have := HZ.out; omega) (fun b hb => by omega) (Acc.new _ _ 147 9 1 HX1.out) ?round ?done ?stop
  case round =>
    rintro ln pre ⟨pv, t⟩ R3 W3 hx hft hi hnl hlt hle
    have hmem : (pv, t) ∈ l := hx.subset (by simp)
    obtain ⟨A2, n2, c2, rfl⟩ := HSL.out _ hmem
    have HMEM := Lib.hid hmem
    clear hmem
    unfold tyPV tyV
    dsimp only
    gi_wp2
    refine ⟨(Only.refl _ _).alloc _, fun W5 hsz ho1 ho2 hi5 => ?_⟩
    obtain ⟨va, hva, hra, hRa⟩ := hi5
    have bx0 : (W3.alloc (.cells #[.slice A2 n2 c2, .bool t.result.cell, .int .i64 t.result.n] 64)).heap[W3.heap.size]? = some (.cells #[.slice A2 n2 c2, .bool t.result.cell, .int .i64 t.result.n] 64 (0, 0)) := World.alloc_heap_new W3 _
    have bx := (ho1.block _ (by simp) (by omega)).trans bx0
    have h3 := hft.box HX0.out (by omega)
    have bk : Boxed W5 w.heap.size 115 (.func (.func k) #[] #[]) := (ho2.block _ (Array.getElem?_eq_some_iff.1 h3).1 (by have := HZ.out; omega)).trans h3
    have p0 := cell_of_row W5 _ 0 _ 64 (0, 0) bx
    have p1 := cell_of_row W5 _ 1 _ 64 (0, 0) bx
    have p2 := cell_of_row W5 _ 2 _ 64 (0, 0) bx
    have ck := bk.cell
    have ca := hva.cell
    have fa := hva.frozen
    have HS5 : Hid (W5.heap.size = W3.heap.size + 1) := Lib.hid (by rw [hsz]; simp)
    have HVA := Lib.hid hva
    have HRA := Lib.hid hra
    have HR := Lib.hid hRa
    have HFT := Lib.hid hft
    have HX := Lib.hid hx
    have HB5 : Hid (Below w.heap.size w W5) := Lib.hid (HB0.out.trans (((HFT.out.only.below w.heap.size (by have := HZ.out; omega) (fun b hb h => by omega))).trans (ho2.below _ (by have := HFT.out.only.size; have := HZ.out; omega) (fun b hb h => by have := HZ.out; omega))))
    have CK : Hid (∀ W, Below w.heap.size w W → CallsIn (Fence.wide.inRound ln) 2 Tryz.prog k #[tyPV (.slice A2 n2 c2, t)] W fun e W' => e = .returned (.string (f (.slice A2 n2 c2, t))) ∧ Below W.heap.size W W') := Lib.hid fun W hW => CallsIn.inRound ln (callsIn_wide.2 (HK.out W _ HMEM.out hW.block))
    unfold tyPV tyV at CK
    dsimp only at CK
    clear hsz ho1 ho2 hva hra hRa bx0 bx h3 bk hft hx hi
    have hmx : Tryz.prog.follows .mixedOrders = true := by kernel_rfl
    have HPL : Hid (pre.length ≤ 1000) := Lib.hid (by have := HX.out.length_le; have := HL.out; simp at *; omega)
    gi_wp2
    gi_region_with_o (refine ⟨trivial, ?_⟩; gi_at_fn k; refine (CK.out _ (HB5.out.trans ((Below.refl _ _).drew.mono HB5.out.size))).mono ?_; rintro e W6 ⟨rfl, hb6⟩; have hb56 : Below W5.heap.size W5 W6 := ((Below.refl _ W5).drew).trans hb6; have hv6 : Boxed W6 _ _ _ := (hb56.block _ HVA.out.lt).trans HVA.out; have ca6 := hv6.cell; have fa6 := hv6.frozen; have hv7 := hv6.alloc (.cells #[.string (f (.slice A2 n2 c2, t))] 9); have ca7 := hv7.cell; have fa7 := hv7.frozen; clear hv6 hv7; obtain ⟨v', w8, hrun, hown', hgrow, _, hat⟩ := run_append_own_at (P := Tryz.prog) (W6.alloc (.cells #[.string (f (.slice A2 n2 c2, t))] 9)) w.heap.size 147 147 9 i0 _ 1 16 Tryz.underlying147 hi hz0 hz1 hz2 rfl (by decide) va pre.length (pre.flatMap (fun x => [Value.string (f x)])) ((row_below HRA.out hb56).alloc _) ⟨W6.heap.size, 0, none⟩ 1 1 [.string (f (.slice A2 n2 c2, t))] rfl (cells_newE _ _ _) (by simp [Value.oneCell']) (by have := HPL.out; unfold maxLen; omega) (by have := HPL.out; omega) (by have := HB0.out.size; have := HFT.out.only.size; have := HS5.out; have := hb56.size; simp; omega); obtain ⟨g', cap', rfl⟩ := ownsRow_succ hown'; rw [append_shut] at hrun; obtain ⟨hb8, R', hA, hF⟩ := Acc.appended (by decide) HVA.out HRA.out HR.out ((Only.of_below (S := fun _ => False) hb56).alloc _) hown' hgrow hat; have cb8 := hb8.cell; have fb8 := hb8.frozen)
    all_goals gi_wp2
    all_goals (refine ⟨R', hF, ?_⟩; dsimp only; rw [List.length_append, List.flatMap_append, List.flatMap_cons, List.flatMap_nil, List.append_nil]; exact hA)
  case done =>
    intro D R3 W3 hD hnD hft hJ3 hK
    obtain ⟨v3, hv3, hr3, hR3⟩ := hJ3
    have cv3 := hv3.cell
    have HR3 := Lib.hid hr3
    have HFT := Lib.hid hft
    have HKK := Lib.hid hK
    clear hr3 hft hK
    gi_wp2
    have hB3 : Below w.heap.size w W3 := HB0.out.trans (HFT.out.only.below _ (by have := HZ.out; omega) (fun b hb h => by omega))
    refine ⟨by simp, .inl ⟨_, _, rfl, run_takeDeferred HKK.out, ?_⟩⟩
    exact ⟨_, results_tmp rfl _ _ _, v3, rfl, hB3.trans (belowK_b (w := w) (Nat.le_refl _) W3 D _ _ (by have := HZ.out; omega) HKK.out rfl rfl), ownsRow_putObj HR3.out _ HKK.out rfl⟩
  case stop =>
    rintro D c pre R3 W3 hD hnD hpre hft h hK
    exact h.elim

end Go.Proofs.YtklfojmflmablaaGreatDoor
