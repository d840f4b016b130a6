/- The texts of arenas, by the program and by the reference (over the decimal texts of the texts of moves). -/
import Derived.Test.YtklfojmflmablaaGreatDoorTx
import Derived.RangeFuncCalls
import Derived.Shelf.RegionOpen
import Derived.Test.YtklfojmflmablaaGreatDoorTv
import Derived.Deep.RegionHeld3
import Derived.Test.YtklfojmflmablaaGreatDoorGi
import Derived.Test.YtklfojmflmablaaGreatDoorGj
import Derived.BigRegion
import Derived.Test.YtklfojmflmablaaGreatDoorLtw
/- Package arena: texts of types with parameters. -/
namespace Go.Proofs.YtklfojmflmablaaGreatDoor
open Go Go.RowKit Go.Shelf
attribute [local go_sem] Oper.semAt_some
attribute [local go_sem ↓] append_shut

set_option maxRecDepth 100000 in
set_option maxHeartbeats 2000000 in
theorem eachBsStr2_any (k B : Nat) (l : List Bs) (v : Value) (w : World) (ek : ∀ args w, (callFunc k args).run Tryz.prog w = .ok (.enter k args) w) (hB : B < w.heap.size) (hb : Boxed w B 62 v) (hv : RowIn bsCells 2 w w.heap.size v l) (hl : l.length ≤ 1000)
    (f : Bs → ByteArray) (hk : ∀ W x, x ∈ l → Calls Tryz.prog k #[bsV x] W fun e W' => e = .returned (.string (f x)) ∧ Below W.heap.size W W') :
    Calls Tryz.prog 198 #[.func (.func 167) #[] #[.pointer (some ⟨B, 0, none⟩)], .func (.func k) #[] #[]] w fun e w' => ∃ v', e = .returned v' ∧ Below w.heap.size w w' ∧ w'.ownsRow w.heap.size 9 1 v' l.length (l.flatMap (fun x => [Value.string (f x)])) := by
  have HK := Lib.hid hk
  have HL := Lib.hid hl
  have HV := Lib.hid hv
  have HBX := Lib.hid hb
  have HBL := Lib.hid hB
  obtain ⟨i0, hi, hz0, hz1, hz2⟩ := info_parts info9
  obtain ⟨W0, hW0⟩ : ∃ W0, (w.alloc (.cells #[.func (.func k) #[] #[]] 114)).alloc (.cells #[.slice none 0 0] 147) = W0 := ⟨_, rfl⟩
  have z0 : W0.heap.size = w.heap.size + 1 + 1 := by rw [← hW0]; simp
  have o0 : Below w.heap.size w W0 := by rw [← hW0]; exact ((Below.refl _ w).alloc (Nat.le_refl _) _).alloc (by simp) _
  have x0 : Boxed W0 w.heap.size 114 (.func (.func k) #[] #[]) := by rw [← hW0]; exact (Boxed.new w 114 _).alloc _
  have x1 : Boxed W0 (w.heap.size + 1) 147 (.slice none 0 0) := by
    rw [← hW0]; have := Boxed.new (w.alloc (.cells #[.func (.func k) #[] #[]] 114)) 147 (.slice none 0 0); rwa [World.size_alloc] at this
  have HZ := Lib.hid z0
  have HB0 := Lib.hid o0
  have HX0 := Lib.hid x0
  have HX1 := Lib.hid x1
  clear hk hl hv hb hB z0 o0 x0 x1
  refine (callsIn_wide (n := 3)).1 ?_
  refine callsIn_of_wp_marks Tryz.func198 rfl trivial ?_ rfl
  simp only [Tryz.ntmps198, List.size_toArray, List.length_cons, List.length_nil, Nat.reduceAdd, Nat.reduceSub, Array.replicate_succ, Array.replicate_zero, List.push_toArray, List.append_toArray, List.nil_append, List.cons_append]
  gi_wp2
  have HIT : Hid (Iters Tryz.prog 167 (fun y => (#[] ++ #[y]) ++ #[.pointer (some ⟨B, 0, none⟩)]) (fun x => #[bsV x]) l (fun b => b < w.heap.size) W0) := Lib.hid (by
    have := valuesBs_iters v l B w.heap.size W0 (by have := HZ.out; omega) HBL.out ((HB0.out.block _ HBL.out).trans HBX.out) (by
      obtain ⟨A, c, e, hA⟩ := HV.out
      refine ⟨A, c, e, fun i x hx => ?_⟩
      obtain ⟨b, off, e1, hbn, hc⟩ := hA i x hx
      exact ⟨b, off, e1, hbn, fun j u hu => (World.cell?_of_block (HB0.out.block _ hbn)).trans (hc j u hu)⟩) (by have := HL.out; omega)
    simpa using this)
  refine wpIn_range (gf := 167) (first := #[]) (lb := #[.pointer (some ⟨B, 0, none⟩)]) rfl (enters_of Tryz.func167 (by kernel_rfl) rfl) HIT.out (fun _ => rfl)
    (fun pre R W => Acc w.heap.size (w.heap.size + 1) 147 9 1 pre.length (pre.flatMap (fun x => [Value.string (f x)])) R W) (fun _ _ _ _ => False)
    (fun _ _ _ _ hj ho => hj.stable ho) (fun _ _ _ _ _ hj _ => hj)
    (fun b => b = w.heap.size + 1) (fun b hb => by have := HZ.out; omega) (fun b hb => by have := HZ.out; omega) (fun b hb => by omega) (Acc.new _ _ 147 9 1 HX1.out) ?round ?done ?stop
  case round =>
    intro ln pre x R3 W3 hx hft hi hnl hlt hle
    unfold bsV
    gi_wp2
    refine ⟨(Only.refl _ _).alloc _, fun W5 hsz ho1 ho2 hi5 => ?_⟩
    obtain ⟨va, hva, hra, hRa⟩ := hi5
    have bx0 : (W3.alloc (.cells #[.bool x.cell, .int .i64 x.n] 24)).heap[W3.heap.size]? = some (.cells #[.bool x.cell, .int .i64 x.n] 24 (0, 0)) := World.alloc_heap_new W3 _
    have bx := (ho1.block _ (by simp) (by omega)).trans bx0
    have h3 := hft.box HX0.out (by omega)
    have bk : Boxed W5 w.heap.size 114 (.func (.func k) #[] #[]) := (ho2.block _ (Array.getElem?_eq_some_iff.1 h3).1 (by have := HZ.out; omega)).trans h3
    have p0 := cell_of_row W5 _ 0 _ 24 (0, 0) bx
    have p1 := cell_of_row W5 _ 1 _ 24 (0, 0) bx
    have ck := bk.cell
    have ca := hva.cell
    have fa := hva.frozen
    have HS5 : Hid (W5.heap.size = W3.heap.size + 1) := Lib.hid (by rw [hsz]; simp)
    have HVA := Lib.hid hva
    have HRA := Lib.hid hra
    have HR := Lib.hid hRa
    have HFT := Lib.hid hft
    have HX := Lib.hid hx
    have CK : Hid (∀ W, CallsIn (Fence.wide.inRound ln) 2 Tryz.prog k #[bsV x] W fun e W' => e = .returned (.string (f x)) ∧ Below W.heap.size W W') := Lib.hid fun W => CallsIn.inRound ln (callsIn_wide.2 (HK.out W x (HX.out.subset (by simp))))
    unfold bsV at CK
    clear hsz ho1 ho2 hva hra hRa bx0 bx h3 bk hft hx hi
    have hmx : Tryz.prog.follows .mixedOrders = true := by kernel_rfl
    have HPL : Hid (pre.length ≤ 1000) := Lib.hid (by have := HX.out.length_le; have := HL.out; simp at *; omega)
    gi_wp2
    gi_region_with_o (refine ⟨trivial, ?_⟩; gi_at_fn k; refine (CK.out _).mono ?_; rintro e W6 ⟨rfl, hb6⟩; have hb56 : Below W5.heap.size W5 W6 := ((Below.refl _ W5).drew).trans hb6; have hv6 : Boxed W6 _ _ _ := (hb56.block _ HVA.out.lt).trans HVA.out; have ca6 := hv6.cell; have fa6 := hv6.frozen; have hv7 := hv6.alloc (.cells #[.string (f x)] 9); have ca7 := hv7.cell; have fa7 := hv7.frozen; clear hv6 hv7; obtain ⟨v', w8, hrun, hown', hgrow, _, hat⟩ := run_append_own_at (P := Tryz.prog) (W6.alloc (.cells #[.string (f x)] 9)) w.heap.size 147 147 9 i0 _ 1 16 Tryz.underlying147 hi hz0 hz1 hz2 rfl (by decide) va pre.length (pre.flatMap (fun x => [Value.string (f x)])) ((row_below HRA.out hb56).alloc _) ⟨W6.heap.size, 0, none⟩ 1 1 [.string (f x)] rfl (cells_newE _ _ _) (by simp [Value.oneCell']) (by have := HPL.out; unfold maxLen; omega) (by have := HPL.out; omega) (by have := HB0.out.size; have := HFT.out.only.size; have := HS5.out; have := hb56.size; simp; omega); obtain ⟨g', cap', rfl⟩ := ownsRow_succ hown'; rw [append_shut] at hrun; obtain ⟨hb8, R', hA, hF⟩ := Acc.appended (by decide) HVA.out HRA.out HR.out ((Only.of_below (S := fun _ => False) hb56).alloc _) hown' hgrow hat; have cb8 := hb8.cell; have fb8 := hb8.frozen)
    all_goals gi_wp2
    all_goals (refine ⟨R', hF, ?_⟩; dsimp only; rw [List.length_append, List.flatMap_append, List.flatMap_cons, List.flatMap_nil, List.append_nil]; exact hA)
  case done =>
    intro D R3 W3 hD hnD hft hJ3 hK
    obtain ⟨v3, hv3, hr3, hR3⟩ := hJ3
    have cv3 := hv3.cell
    have HR3 := Lib.hid hr3
    have HFT := Lib.hid hft
    have HKK := Lib.hid hK
    clear hr3 hft hK
    gi_wp2
    have hB3 : Below w.heap.size w W3 := HB0.out.trans (HFT.out.only.below _ (by have := HZ.out; omega) (fun b hb h => by omega))
    refine ⟨by simp, .inl ⟨_, _, rfl, run_takeDeferred HKK.out, ?_⟩⟩
    exact ⟨_, results_tmp rfl _ _ _, v3, rfl, hB3.trans (belowK_b (w := w) (Nat.le_refl _) W3 D _ _ (by have := HZ.out; omega) HKK.out rfl rfl), ownsRow_putObj HR3.out _ HKK.out rfl⟩
  case stop =>
    rintro D c pre R3 W3 hD hnD hpre hft h hK
    exact h.elim


/-- Texts with a comma and a blank between. -/
def jn (xs : List ByteArray) : ByteArray := ⟨(Lib.join (xs.map (·.data.toList)) [44, 32]).toArray⟩
theorem jn_one (x : ByteArray) : jn [x] = x := by
  unfold jn
  rw [List.map_cons, List.map_nil, Lib.join_one]
theorem joinTail_snoc (sep : List UInt8) (r : List (List UInt8)) (y : List UInt8) : Lib.joinTail sep (r ++ [y]) = Lib.joinTail sep r ++ (sep ++ y) := by
  simp [Lib.joinTail]
theorem jn_snoc (l : List ByteArray) (x : ByteArray) (h : l ≠ []) : jn (l ++ [x]) = (jn l ++ ⟨#[44, 32]⟩) ++ x := by
  obtain ⟨y, r, rfl⟩ := List.exists_cons_of_ne_nil h
  unfold jn
  rw [List.cons_append, List.map_cons, Lib.join_cons, List.map_append, List.map_cons, List.map_nil, joinTail_snoc, List.map_cons, Lib.join_cons]
  apply ByteArray.ext
  simp [List.append_assoc]
theorem strs_snoc (T : ByteArray) (l : List ByteArray) (x : ByteArray) : strs T (l ++ [x]) = strs T l ++ ((⟨#[59, 32]⟩ : ByteArray) ++ x) := by
  unfold strs
  rw [List.map_cons, Lib.join_cons, List.map_append, List.map_cons, List.map_nil, joinTail_snoc, List.map_cons, Lib.join_cons]
  apply ByteArray.ext
  simp [List.append_assoc]
theorem strs_nil (T : ByteArray) : strs T [] = T := by
  unfold strs
  rw [List.map_cons, List.map_nil, Lib.join_one]
theorem tail_len (r : List ByteArray) (h : ∀ x ∈ r, x.size ≤ 7) : (Lib.joinTail [44, 32] (r.map (·.data.toList))).length ≤ r.length * 9 := by
  induction r with
  | nil => simp [Lib.joinTail]
  | cons x r ih =>
    have h1 := ih (fun y hy => h y (List.mem_cons_of_mem _ hy))
    have h2 := h x (by simp)
    have : Lib.joinTail [44, 32] ((x :: r).map (·.data.toList)) = ([44, 32] ++ x.data.toList) ++ Lib.joinTail [44, 32] (r.map (·.data.toList)) := by simp [Lib.joinTail]
    rw [this, List.length_append, List.length_append, List.length_cons]
    have e : x.data.toList.length = x.size := Array.length_toList
    rw [e]
    simp
    omega
theorem jn_size (l : List ByteArray) (h : ∀ x ∈ l, x.size ≤ 7) : (jn l).size ≤ l.length * 9 := by
  cases l with
  | nil => simp [jn, Lib.join_nil, ByteArray.size]
  | cons x r =>
    have h1 := tail_len r (fun y hy => h y (List.mem_cons_of_mem _ hy))
    have h2 := h x (by simp)
    have e : x.data.toList.length = x.size := Array.length_toList
    show (⟨(Lib.join ((x :: r).map (·.data.toList)) [44, 32]).toArray⟩ : ByteArray).size ≤ _
    rw [List.map_cons, Lib.join_cons]
    simp only [ByteArray.size, List.size_toArray, List.length_append, List.length_cons]
    simp only [ByteArray.size] at h2
    simp at h1 h2 ⊢
    omega
/-- The text of a type. -/
def typeTx (t : Ty) : ByteArray := if t.params = [] then baseTx t.result else ((⟨#[40]⟩ ++ jn (t.params.map baseTx)) ++ ⟨#[41, 32, 45, 62, 32]⟩) ++ baseTx t.result
def smallTy (t : Ty) : Prop := t.params.length ≤ 5 ∧ (0 ≤ t.result.n ∧ t.result.n < 100) ∧ ∀ b ∈ t.params, 0 ≤ b.n ∧ b.n < 100
theorem typeTx_size {t : Ty} (h : smallTy t) : (typeTx t).size ≤ 60 := by
  obtain ⟨h1, h2, h3⟩ := h
  have hb := baseTx_size h2.1 h2.2
  unfold typeTx
  split
  · omega
  · have := jn_size (t.params.map baseTx) (fun x hx => by obtain ⟨b, hb, rfl⟩ := List.mem_map.1 hx; exact baseTx_size (h3 b hb).1 (h3 b hb).2)
    rw [List.length_map] at this
    rw [ByteArray.size_append, ByteArray.size_append, ByteArray.size_append]
    have e1 : (⟨#[40]⟩ : ByteArray).size = 1 := rfl
    have e2 : (⟨#[41, 32, 45, 62, 32]⟩ : ByteArray).size = 5 := rfl
    omega

set_option maxRecDepth 100000 in
set_option maxHeartbeats 1000000 in
theorem typeText_some (pv : Value) (t : Ty) (w : World) (ht : smallTy t) (hne : t.params ≠ []) (hv : BsIn w w.heap.size pv t.params) :
    Calls Tryz.prog 157 #[tyV pv t.result] w fun e w' => e = .returned (.string (typeTx t)) ∧ Below w.heap.size w w' := by
  obtain ⟨h5, hr, hps⟩ := ht
  have hTy : typeTx t = ((⟨#[40]⟩ ++ jn (t.params.map baseTx)) ++ ⟨#[41, 32, 45, 62, 32]⟩) ++ baseTx t.result := by unfold typeTx; rw [if_neg hne]
  rw [hTy]
  have hjs := jn_size (t.params.map baseTx) (fun x hx => by obtain ⟨b, hb, rfl⟩ := List.mem_map.1 hx; exact baseTx_size (hps b hb).1 (hps b hb).2)
  rw [List.length_map] at hjs
  have hbs := baseTx_size hr.1 hr.2
  have hrow := bsRow hv
  obtain ⟨A, c, rfl⟩ := bsIn_slice hv
  have hpos : 0 < t.params.length := List.length_pos_iff.2 hne
  obtain ⟨J, hJ⟩ : ∃ J, jn (t.params.map baseTx) = J := ⟨_, rfl⟩
  have CB : Hid (∀ W, Calls Tryz.prog 154 #[bsV t.result] W fun e w' => e = .returned (.string (baseTx t.result)) ∧ Below W.heap.size W w') := Lib.hid fun W => baseText_any t.result W hr.1 hr.2
  obtain ⟨m, hm⟩ : ∃ m, t.params.length = m := ⟨_, rfl⟩
  have CE : Hid (∀ W B, Below w.heap.size w W → B < W.heap.size → Boxed W B 62 (.slice A m c) → Calls Tryz.prog 198 #[.func (.func 167) #[] #[.pointer (some ⟨B, 0, none⟩)], .func (.func 154) #[] #[]] W fun e w' => ∃ g4 c4, e = .returned (.slice (some ⟨g4, 0, none⟩) m c4) ∧ Below W.heap.size W w' ∧
      Hid (∀ W', Below w'.heap.size w' W' → Calls Tryz.prog 158 #[.slice (some ⟨g4, 0, none⟩) m c4, .string ⟨#[44, 32]⟩] W' fun e w'' => e = .returned (.string J) ∧ Below W'.heap.size W' w'')) := Lib.hid fun W B hW hB hbx => by
    refine (eachBsStr2_any 154 B t.params _ W (enters_of Tryz.func154 (by kernel_rfl) rfl) hB (by rw [hm]; exact hbx) (RowIn.later hrow hW) (by omega) baseTx (fun W x hx => baseText_any x W (hps x hx).1 (hps x hx).2)).mono ?_
    rintro e w' ⟨v', rfl, hb', hr⟩
    have hx : (t.params.flatMap fun x => [Value.string (baseTx x)]) = (t.params.map baseTx).map Value.string := by
      rw [List.map_map]
      generalize t.params = l
      induction l with
      | nil => rfl
      | cons z zs ih => rw [List.flatMap_cons, ih]; rfl
    rw [hx, hm] at hr
    obtain ⟨g, cc, rfl, hcc, hg1, hg2, hcell⟩ := own_cells hr (by omega)
    refine ⟨g, cc, rfl, hb', Lib.hid fun W' hW' => ?_⟩
    have hll : (t.params.map baseTx).length = m := by rw [List.length_map, hm]
    have := Tryz.strings_Join g 0 cc (t.params.map baseTx) ⟨#[44, 32]⟩ W' (fun j x hx => (hW'.cell (p := ⟨g, 0 + j, none⟩) hg2).trans (hcell j x hx)) (Nat.lt_of_lt_of_le hg2 hW'.size) (by rw [hll]; omega) (by rw [hll]; exact hcc) (by
      have h2 := hjs; unfold jn at h2; simp only [ByteArray.size, List.size_toArray] at h2; exact Nat.le_trans h2 (by omega))
    rw [hll] at this
    rw [← hJ]
    exact this
  rw [hJ] at hjs ⊢
  obtain ⟨R, hR⟩ : ∃ R, baseTx t.result = R := ⟨_, rfl⟩
  rw [hR] at hbs CB ⊢
  have z1 : (⟨#[40]⟩ : ByteArray).size = 1 := rfl
  have z2 : (⟨#[41, 32, 45, 62, 32]⟩ : ByteArray).size = 5 := rfl
  have a1 : ∀ W, (Op.stringOp .add ⟨#[40]⟩ J).run Tryz.prog W = .ok (.string (⟨#[40]⟩ ++ J)) W := fun W => run_string_add_sum W _ _ (by omega)
  have a2 : ∀ W, (Op.stringOp .add (⟨#[40]⟩ ++ J) ⟨#[41, 32, 45, 62, 32]⟩).run Tryz.prog W = .ok (.string ((⟨#[40]⟩ ++ J) ++ ⟨#[41, 32, 45, 62, 32]⟩)) W := fun W => run_string_add_sum W _ _ (by rw [ByteArray.size_append]; omega)
  have a3 : ∀ W, (Op.stringOp .add ((⟨#[40]⟩ ++ J) ++ ⟨#[41, 32, 45, 62, 32]⟩) R).run Tryz.prog W = .ok (.string (((⟨#[40]⟩ ++ J) ++ ⟨#[41, 32, 45, 62, 32]⟩) ++ R)) W := fun W => run_string_add_sum W _ _ (by rw [ByteArray.size_append, ByteArray.size_append]; omega)
  obtain ⟨T1, t1⟩ : ∃ T, (⟨#[40]⟩ : ByteArray) ++ J = T := ⟨_, rfl⟩
  rw [t1] at a1 a2 a3 ⊢
  obtain ⟨T2, t2⟩ : ∃ T, T1 ++ (⟨#[41, 32, 45, 62, 32]⟩ : ByteArray) = T := ⟨_, rfl⟩
  rw [t2] at a2 a3 ⊢
  obtain ⟨T3, t3⟩ : ∃ T, T2 ++ R = T := ⟨_, rfl⟩
  rw [t3] at a3 ⊢
  have b1 : ∀ W, (Go.binOp .add 9 (.string ⟨#[40]⟩) (.string J)).run Tryz.prog W = .ok (.string T1) W := fun W => by simp [Go.binOp, a1]
  have b2 : ∀ W, (Go.binOp .add 9 (.string T1) (.string ⟨#[41, 32, 45, 62, 32]⟩)).run Tryz.prog W = .ok (.string T2) W := fun W => by simp [Go.binOp, a2]
  have b3 : ∀ W, (Go.binOp .add 9 (.string T2) (.string R)).run Tryz.prog W = .ok (.string T3) W := fun W => by simp [Go.binOp, a3]
  obtain ⟨w1, hw1⟩ : ∃ w1, w.alloc (.cells #[.slice A m c, .bool t.result.cell, .int .i64 t.result.n] 64) = w1 := ⟨_, rfl⟩
  have hb : Below w.heap.size w w1 := by rw [← hw1]; exact (Below.refl _ w).alloc (Nat.le_refl _) _
  have x0 : w1.heap[w.heap.size]? = some (.cells #[.slice A m c, .bool t.result.cell, .int .i64 t.result.n] 64 (0, 0)) := by rw [← hw1]; exact World.alloc_heap_new w _
  have HB := Lib.hid hb
  have HX0 := Lib.hid x0
  have HXL := Lib.hid (show w.heap.size < w1.heap.size from (Array.getElem?_eq_some_iff.1 x0).1)
  have c0 := cell_of_row w1 _ 0 _ 64 (0, 0) x0
  have c1 := cell_of_row w1 _ 1 _ 64 (0, 0) x0
  have c2 := cell_of_row w1 _ 2 _ 64 (0, 0) x0
  have hm0 : ((m : Int) == 0) = false := by
    have : (m : Int) ≠ 0 := by omega
    simpa using this
  rw [hm]
  unfold tyV
  unfold bsV at CB
  clear hb x0 hv hrow hne hTy hJ hR t1 t2 t3 hjs hbs hps hr h5 hpos hm z1 z2
  go_enter Tryz.func157, Tryz.ntmps157
  go_wp2_with (first
    | (go_at_call 103; refine (valuesBs_any _ _ _ _).mono ?_; rintro e w3 ⟨rfl, rfl⟩)
    | (go_at_call 198; refine (CE.out (w1.alloc (.cells #[.slice A m c] 62)) w1.heap.size (HB.out.alloc HB.out.size _) (by simp) (Boxed.new _ _ _)).mono ?_; rintro e w5 ⟨g4, c4, rfl, hb5, CJ⟩))
  have hq : Below w.heap.size w (w1.alloc (.cells #[.slice A m c] 62)) := HB.out.alloc HB.out.size _
  have HB5 : Hid (Below w.heap.size w w5) := Lib.hid (hq.trans (hb5.mono hq.size))
  have HL5 : Hid (w.heap.size < w5.heap.size) := Lib.hid (by have h1 := HXL.out; have h2 := hb5.size; simp at h2; omega)
  have h15 : Below w1.heap.size w1 w5 := ((Below.refl _ w1).alloc (Nat.le_refl _) _).trans (hb5.mono (by simp))
  have p1 := (h15.cell (p := ⟨w.heap.size, 1, none⟩) HXL.out).trans c1
  have p2 := (h15.cell (p := ⟨w.heap.size, 2, none⟩) HXL.out).trans c2
  have h1 : Below w5.heap.size w5 w5.drew := (Below.refl _ w5).drew
  clear hq h15 hb5
  go_region_held3 (fun W => W.cell? ⟨w.heap.size, 1, none⟩ = some (.bool t.result.cell) ∧ W.cell? ⟨w.heap.size, 2, none⟩ = some (.int .i64 t.result.n))
    (first
      | go_keep
      | (go_split_ands
         refine ⟨?_, ?_⟩ <;> (first
           | assumption
           | (refine (h1.cell (by have := HL5.out; simp; omega)).trans ?_; assumption)))
      | (trace_state; fail))
    (first
      | (go_at_call 158; refine (CJ.out _ h1).mono ?_; rintro e w6 ⟨rfl, hb⟩; have h1 : Below w5.heap.size w5 w6 := h1.trans (hb.mono h1.size))
      | (go_at_call 154; refine (CB.out _).mono ?_; rintro e w6 ⟨rfl, hb⟩; have h1 : Below w5.heap.size w5 w6 := h1.trans (hb.mono h1.size)))
  all_goals (
    go_wp2
    go_ret
    exact ⟨rfl, HB5.out.trans (h1.mono HB5.out.size)⟩)

theorem typeText_any (pv : Value) (t : Ty) (w : World) (ht : smallTy t) (hv : BsIn w w.heap.size pv t.params) :
    Calls Tryz.prog 157 #[tyV pv t.result] w fun e w' => e = .returned (.string (typeTx t)) ∧ Below w.heap.size w w' := by
  by_cases hne : t.params = []
  · obtain ⟨A, c, rfl⟩ := bsIn_slice hv
    rw [show typeTx t = baseTx t.result by unfold typeTx; rw [if_pos hne]]
    rw [hne]
    exact typeText_none A c t.result w ht.2.1.1 ht.2.1.2
  · exact typeText_some pv t w ht hne hv
end Go.Proofs.YtklfojmflmablaaGreatDoor
/- Package arena: Show, of any right arena. -/
namespace Go.Proofs.YtklfojmflmablaaGreatDoor
open Go Go.RowKit Go.Shelf
attribute [local go_sem ↓] append_shut

theorem app_nil0 (P : Program) (W : World) (t e : TypeId) (i : TypeInfo) (z : Value) (ht : P.underlying t = some (.slice e)) (hi : P.info? e = some i) (hz : i.zero = some z) (A : Option Addr) (k c c2 : Nat) (hk : k ≤ c) :
    (Builtin.append_ #[t, t] t #[.slice A k c, .slice none 0 c2]).run P W = .ok (.slice A k c) W := by
  cases A <;> simp [Builtin.append_, run_underlying ht, sizeOf, typeInfo, zeroValue, hi, hz, Builtin.lenOf, Question.forced, run_firstCells_none, hk, storeCells]
theorem app_strs2 {w' W : World} {v' : Value} (T : ByteArray) (fs : List ByteArray) (n : Nat) (hn : fs.length = n) (hl : n ≤ 1000) (hr : w'.ownsRow W.heap.size 9 1 v' n (fs.map Value.string)) (hb' : Below W.heap.size W w') :
    ∃ A4 c4, (Ending.returned v' = .returned (.slice A4 n c4)) ∧ Below W.heap.size W w' ∧ Hid (∀ W' g1, Below w'.heap.size w' W' → W'.ownsRow g1 9 1 (.slice (some ⟨g1, 0, none⟩) 1 1) 1 [.string T] → g1 ≤ W'.heap.size → ∃ g c w'', (appShut #[147, 147] 147 #[.slice (some ⟨g1, 0, none⟩) 1 1, .slice A4 n c4]).run Tryz.prog W' = .ok (.slice (some ⟨g, 0, none⟩) (1 + n) c) w'' ∧ 1 + n ≤ c ∧ g < w''.heap.size ∧ (∀ (j : Nat) x, (T :: fs)[j]? = some x → w''.cell? ⟨g, 0 + j, none⟩ = some (.string x)) ∧ Below g1 W' w'') := by
  by_cases hp : 0 < n
  · obtain ⟨g, cc, rfl, hcc, hg1, hg2, hcell⟩ := own_cells hr hp
    refine ⟨some ⟨g, 0, none⟩, cc, rfl, hb', Lib.hid fun W' g1 hW ho hg => app_strs W' g1 g cc T fs ho hg (fun j u hu => ?_) n hn hl⟩
    rw [List.getElem?_map, Option.map_eq_some_iff] at hu
    obtain ⟨x, hx1, rfl⟩ := hu
    have hadd : (⟨g, 0, none⟩ : Addr).add j = ⟨g, 0 + j, none⟩ := by unfold Addr.add; split <;> simp_all
    rw [hadd]
    exact (hW.cell (p := ⟨g, 0 + j, none⟩) hg2).trans (hcell j x hx1)
  · obtain rfl : n = 0 := by omega
    have hf : fs = [] := List.length_eq_zero_iff.1 hn
    subst hf
    obtain ⟨i0, hi, hz0, hz1, hz2⟩ := info_parts info9
    have fin : ∀ (W' w'' : World) (g1 g c : Nat), w''.ownsRow g1 9 1 (.slice (some ⟨g, 0, none⟩) 1 c) 1 [.string T] → 1 ≤ c ∧ g < w''.heap.size ∧ (∀ (j : Nat) x, (T :: ([] : List ByteArray))[j]? = some x → w''.cell? ⟨g, 0 + j, none⟩ = some (.string x)) := by
      intro W' w'' g1 g c ho
      obtain ⟨g', c', e, hc, _, hg2, hcell⟩ := own_cells (xs := [T]) ho (by omega)
      cases e
      exact ⟨hc, hg2, hcell⟩
    rcases hr.2 with ⟨rfl, _⟩ | ⟨g, cap, cur, rfl, _⟩
    · refine ⟨none, 0, rfl, hb', Lib.hid fun W' g1 hW ho hg => ?_⟩
      obtain ⟨f1, f2, f3⟩ := fin W' W' g1 g1 1 ho
      exact ⟨g1, 1, W', app_nil0 Tryz.prog W' 147 9 i0 _ Tryz.underlying147 hi hz0 _ 1 1 0 (Nat.le_refl _), f1, f2, f3, Below.refl _ _⟩
    · refine ⟨some ⟨g, 0, none⟩, cap, rfl, hb', Lib.hid fun W' g1 hW ho hg => ?_⟩
      obtain ⟨v2, w'', hrun, hown, hgrow, _, hat⟩ := run_append_own_at (P := Tryz.prog) W' g1 147 147 9 i0 _ 1 16 Tryz.underlying147 hi hz0 hz1 hz2 rfl (by decide) (.slice (some ⟨g1, 0, none⟩) 1 1) 1 [.string T] ho ⟨g, 0, none⟩ 0 cap [] (by simp) (by simp) (by simp) (by unfold maxLen; omega) (by omega) hg
      rw [List.append_nil] at hown
      obtain ⟨g2, c2, rfl⟩ := ownsRow_succ hown
      obtain ⟨f1, f2, f3⟩ := fin W' w'' g1 g2 c2 hown
      exact ⟨g2, c2, w'', hrun, f1, f2, f3, ⟨hgrow.os, hgrow.tape, hgrow.output, hgrow.size, fun b hb => hgrow.block b (Nat.lt_of_lt_of_le hb hg) (by simp [Value.ownBlock]; omega)⟩⟩

set_option maxRecDepth 100000 in
set_option maxHeartbeats 1000000 in
theorem arenaText2_true (v : Value) (ids : List Ty) (root : Bs) (f : Ty → ByteArray) (w : World) (h0 : 0 ≤ root.n) (h1 : root.n < 100) (hl : ids.length ≤ 1000) (hv : TyIn w w.heap.size v ids)
    (hlen : (strs (baseTx root) (ids.map f)).size ≤ 1000000)
    (hk : ∀ W pv x, x ∈ ids → BsIn w w.heap.size pv x.params → (∀ b, b < w.heap.size → W.heap[b]? = w.heap[b]?) → Calls Tryz.prog 157 #[tyV pv x.result] W fun e W' => e = .returned (.string (f x)) ∧ Below W.heap.size W W') :
    Calls Tryz.prog 75 #[arV v root true] w fun e w' => e = .returned (.string (strs (baseTx root) (ids.map f) ++ jmp)) ∧ Below w.heap.size w w' := by
  obtain ⟨zs, hzs, hrow, hbs⟩ := tyRow hv
  have hzl : zs.length = ids.length := by rw [← hzs, List.length_map]
  obtain ⟨A, c, rfl⟩ := tyIn_slice hv
  obtain ⟨w1, hw1⟩ : ∃ w1, (w.alloc (.cells #[.slice A ids.length c, .bool root.cell, .int .i64 root.n, .bool true] 26)) = w1 := ⟨_, rfl⟩
  have hb : Below w.heap.size w w1 := by rw [← hw1]; exact (Below.refl _ w).alloc (Nat.le_refl _) _
  have x0 : w1.heap[w.heap.size]? = some (.cells #[.slice A ids.length c, .bool root.cell, .int .i64 root.n, .bool true] 26 (0, 0)) := by rw [← hw1]; exact World.alloc_heap_new w _
  have HB := Lib.hid hb
  have HX0 := Lib.hid x0
  have HX1 : Hid (w1.heap.size = w.heap.size + 1) := Lib.hid (by rw [← hw1]; simp)
  have c0 := cell_of_row w1 _ 0 _ 26 (0, 0) x0
  have c1 := cell_of_row w1 _ 1 _ 26 (0, 0) x0
  have c2 := cell_of_row w1 _ 2 _ 26 (0, 0) x0
  have c3 := cell_of_row w1 _ 3 _ 26 (0, 0) x0
  have CB := Lib.hid (fun w => baseText_any root w h0 h1)
  obtain ⟨T, hT⟩ : ∃ T, baseTx root = T := ⟨_, rfl⟩
  rw [hT] at CB hlen ⊢
  have CE : Hid (∀ W B, Below w.heap.size w W → B < W.heap.size → Boxed W B 22 (.slice A ids.length c) → Calls Tryz.prog 155 #[.func (.func 197) #[] #[.pointer (some ⟨B, 0, none⟩)], .func (.func 157) #[] #[]] W fun e w' => ∃ A4 c4, e = .returned (.slice A4 ids.length c4) ∧ Below W.heap.size W w' ∧
      Hid (∀ W' g1, Below w'.heap.size w' W' → W'.ownsRow g1 9 1 (.slice (some ⟨g1, 0, none⟩) 1 1) 1 [.string T] → g1 ≤ W'.heap.size → ∃ g c w'', (appShut #[147, 147] 147 #[.slice (some ⟨g1, 0, none⟩) 1 1, .slice A4 ids.length c4]).run Tryz.prog W' = .ok (.slice (some ⟨g, 0, none⟩) (1 + ids.length) c) w'' ∧ 1 + ids.length ≤ c ∧ g < w''.heap.size ∧ (∀ (j : Nat) x, (T :: ids.map f)[j]? = some x → w''.cell? ⟨g, 0 + j, none⟩ = some (.string x)) ∧ Below g1 W' w'')) := Lib.hid fun W B hW hB hbx => by
    refine (eachTyStr_any 157 B zs _ W (enters_of Tryz.func157 (by kernel_rfl) rfl) hB hbx (hrow.later hW) (by omega) (fun z hz => by obtain ⟨A, c, e⟩ := bsIn_slice (hbs z hz); exact ⟨A, _, c, e⟩) (fun z => f z.2) (fun W2 z hz h2 => hk W2 z.1 z.2 (by rw [← hzs]; exact List.mem_map_of_mem hz) (hbs z hz) (fun b hb' => (h2 b (Nat.lt_of_lt_of_le hb' hW.size)).trans (hW.block b hb')))).mono ?_
    rintro e w' ⟨v', rfl, hb', hr⟩
    have hx : (zs.flatMap fun x => [Value.string (f x.2)]) = (ids.map f).map Value.string := by
      rw [← hzs, List.map_map, List.map_map]
      clear hzs hrow hbs hzl hr
      induction zs with
      | nil => rfl
      | cons z zs ih => rw [List.flatMap_cons, ih]; rfl
    rw [hx, hzl] at hr
    exact app_strs2 T (ids.map f) ids.length (by simp) hl hr hb'
  obtain ⟨R, hR⟩ : ∃ R, strs T (ids.map f) = R := ⟨_, rfl⟩
  have CJ : Hid (∀ W g c, 1 + ids.length ≤ c → g < W.heap.size → (∀ (j : Nat) x, (T :: ids.map f)[j]? = some x → W.cell? ⟨g, 0 + j, none⟩ = some (.string x)) → Calls Tryz.prog 158 #[.slice (some ⟨g, 0, none⟩) (1 + ids.length) c, .string ⟨#[59, 32]⟩] W fun e w' => e = .returned (.string R) ∧ Below W.heap.size W w') := Lib.hid fun W g c hc hg hcell => by
    have hll : (T :: ids.map f).length = 1 + ids.length := by simp; omega
    have := Tryz.strings_Join g 0 c (T :: ids.map f) ⟨#[59, 32]⟩ W hcell hg (by rw [hll]; omega) (by rw [hll]; exact hc) (by
      have := hlen; unfold strs at this; simp only [ByteArray.size, List.size_toArray] at this; exact Nat.le_trans this (by omega))
    rw [hll] at this
    rw [← hR]
    exact this
  rw [hR] at hlen ⊢
  unfold arV
  unfold bsV at CB
  have HL := Lib.hid hl
  clear hb x0 hv hrow hbs hk hzs hzl hT h0 h1 hl
  go_enter Tryz.func75, Tryz.ntmps75
  go_wp2
  go_region_held3 (fun W => W.cell? ⟨w.heap.size, 0, none⟩ = some (.slice A ids.length c) ∧ W.cell? ⟨w.heap.size, 1, none⟩ = some (.bool root.cell) ∧ W.cell? ⟨w.heap.size, 2, none⟩ = some (.int .i64 root.n) ∧ W.cell? ⟨w.heap.size, 3, none⟩ = some (.bool true))
    (first
      | go_keep
      | (go_split_ands
         refine ⟨?_, ?_, ?_, ?_⟩ <;> (repeat' (first
           | assumption
           | refine cell_alloc_some _ ?_
           | refine (hb9.cell (by have h1 := hb2.size; have h2 := HX1.out; have h3 := hb5.size; simp at h1 h3 ⊢; omega)).trans ?_
           | refine (hb5.cell (by have h1 := hb2.size; have h2 := HX1.out; simp at h1 ⊢; omega)).trans ?_
           | refine (hb2.cell (by have h2 := HX1.out; simp; omega)).trans ?_)))
      | (trace_state; fail))
    (first
    | (go_at_call 154; refine (CB.out _).mono ?_; rintro e w2 ⟨rfl, hb2⟩; have hb12 : Below w.heap.size w w2 := HB.out.trans ((((Below.refl _ w1).drew).trans hb2).mono HB.out.size))
    | (go_at_call 156; refine (valuesTy_any _ _ _ _).mono ?_; rintro e w3 ⟨rfl, rfl⟩)
    | (go_at_call 155; first
        | (with_reducible refine (CE.out ((w2.alloc (.cells #[.string T] 9)).alloc (.cells #[.slice A ids.length c] 22)) (w2.heap.size + 1) ?_ ?_ ?_).mono ?_; (exact (hb12.alloc hb12.size _).alloc (by have := hb12.size; simp; omega) _); (simp); (exact boxed_new2 _ _ _ _); rintro e w5 ⟨A4, c4, rfl, hb5, hap⟩; obtain ⟨g, cc, w9, hrun, hcc, hg9, hcell9, hb9⟩ := hap.out w5 w2.heap.size (Below.refl _ _) (row_below ((own_one w2 T).alloc _) hb5) (by have := hb5.size; simp at this; omega); have hq := (hb12.alloc hb12.size (.cells #[.string T] 9)).alloc (by have := hb12.size; simp; omega) (.cells #[.slice A ids.length c] 22); have hb19 : Below w.heap.size w w9 := (hq.trans (hb5.mono hq.size)).trans (hb9.mono hb12.size); have hw9 : w.heap.size < w9.heap.size := (by have h1 := HX1.out; have h2 := hb2.size; have h3 := hb5.size; have h4 := hb9.size; simp at h2 h3 h4; omega); clear hq)
        | (with_reducible refine (CE.out ((w2.alloc (.cells #[.slice A ids.length c] 22)).alloc (.cells #[.string T] 9)) (w2.heap.size) ?_ ?_ ?_).mono ?_; (exact (hb12.alloc hb12.size _).alloc (by have := hb12.size; simp; omega) _); (simp; omega); (exact (Boxed.new _ _ _).alloc _); rintro e w5 ⟨A4, c4, rfl, hb5, hap⟩; obtain ⟨g, cc, w9, hrun, hcc, hg9, hcell9, hb9⟩ := hap.out w5 (w2.heap.size + 1) (Below.refl _ _) (row_below (by have := own_one (w2.alloc (.cells #[.slice A ids.length c] 22)) T; rwa [World.size_alloc] at this) hb5) (by have := hb5.size; simp at this; omega); have hq := (hb12.alloc hb12.size (.cells #[.slice A ids.length c] 22)).alloc (by have := hb12.size; simp; omega) (.cells #[.string T] 9); have hb19 : Below w.heap.size w w9 := (hq.trans (hb5.mono hq.size)).trans (hb9.mono (by have := hb12.size; omega)); have hw9 : w.heap.size < w9.heap.size := (by have h1 := HX1.out; have h2 := hb2.size; have h3 := hb5.size; have h4 := hb9.size; simp at h2 h3 h4; omega); clear hq)
        | (with_reducible refine (CE.out (w2.alloc (.cells #[.slice A ids.length c] 22)) w2.heap.size ?_ ?_ ?_).mono ?_; (exact hb12.alloc hb12.size _); (simp); (exact Boxed.new _ _ _); rintro e w5 ⟨A4, c4, rfl, hb5, hap⟩; obtain ⟨g, cc, w9, hrun, hcc, hg9, hcell9, hb9⟩ := hap.out (w5.alloc (.cells #[.string T] 9)) w5.heap.size ((Below.refl _ w5).alloc (Nat.le_refl _) _) (own_one w5 T) (by simp); have hq := hb12.alloc hb12.size (.cells #[.slice A ids.length c] 22); have hr := hq.trans (hb5.mono hq.size); have hb19 : Below w.heap.size w w9 := (hr.alloc hr.size _).trans (hb9.mono hr.size); have hw9 : w.heap.size < w9.heap.size := (by have h1 := HX1.out; have h2 := hb2.size; have h3 := hb5.size; have h4 := hb9.size; simp at h2 h3 h4; omega); clear hq hr)))
  all_goals (
    rename_i hheld
    obtain ⟨u0, u1, u2, u3⟩ := hheld
    have HB19 := Lib.hid hb19
    have U3 := Lib.hid u3
    have JJ := CJ.out w9 g cc hcc hg9 hcell9
    clear u0 u1 u2 u3 hb9 hap hrun hb19 hcell9 hcc hg9 c0 c1 c2 c3 hb5 hb2 hb12
    go_wp2_with (go_at_call 158; refine JJ.mono ?_; rintro e wx ⟨rfl, hbx⟩; have u3 := (hbx.cell (p := ⟨w.heap.size, 3, none⟩) (by have h1 := HB19.out.size; have h2 := HX1.out; have h3 := hw9; omega)).trans U3.out)
    go_ret
    exact ⟨rfl, HB19.out.trans (hbx.mono HB19.out.size)⟩)

set_option maxRecDepth 100000 in
set_option maxHeartbeats 1000000 in
theorem arenaText2_false (v : Value) (ids : List Ty) (root : Bs) (f : Ty → ByteArray) (w : World) (h0 : 0 ≤ root.n) (h1 : root.n < 100) (hl : ids.length ≤ 1000) (hv : TyIn w w.heap.size v ids)
    (hlen : (strs (baseTx root) (ids.map f)).size ≤ 1000000)
    (hk : ∀ W pv x, x ∈ ids → BsIn w w.heap.size pv x.params → (∀ b, b < w.heap.size → W.heap[b]? = w.heap[b]?) → Calls Tryz.prog 157 #[tyV pv x.result] W fun e W' => e = .returned (.string (f x)) ∧ Below W.heap.size W W') :
    Calls Tryz.prog 75 #[arV v root false] w fun e w' => e = .returned (.string (strs (baseTx root) (ids.map f))) ∧ Below w.heap.size w w' := by
  obtain ⟨zs, hzs, hrow, hbs⟩ := tyRow hv
  have hzl : zs.length = ids.length := by rw [← hzs, List.length_map]
  obtain ⟨A, c, rfl⟩ := tyIn_slice hv
  obtain ⟨w1, hw1⟩ : ∃ w1, (w.alloc (.cells #[.slice A ids.length c, .bool root.cell, .int .i64 root.n, .bool false] 26)) = w1 := ⟨_, rfl⟩
  have hb : Below w.heap.size w w1 := by rw [← hw1]; exact (Below.refl _ w).alloc (Nat.le_refl _) _
  have x0 : w1.heap[w.heap.size]? = some (.cells #[.slice A ids.length c, .bool root.cell, .int .i64 root.n, .bool false] 26 (0, 0)) := by rw [← hw1]; exact World.alloc_heap_new w _
  have HB := Lib.hid hb
  have HX0 := Lib.hid x0
  have HX1 : Hid (w1.heap.size = w.heap.size + 1) := Lib.hid (by rw [← hw1]; simp)
  have c0 := cell_of_row w1 _ 0 _ 26 (0, 0) x0
  have c1 := cell_of_row w1 _ 1 _ 26 (0, 0) x0
  have c2 := cell_of_row w1 _ 2 _ 26 (0, 0) x0
  have c3 := cell_of_row w1 _ 3 _ 26 (0, 0) x0
  have CB := Lib.hid (fun w => baseText_any root w h0 h1)
  obtain ⟨T, hT⟩ : ∃ T, baseTx root = T := ⟨_, rfl⟩
  rw [hT] at CB hlen ⊢
  have CE : Hid (∀ W B, Below w.heap.size w W → B < W.heap.size → Boxed W B 22 (.slice A ids.length c) → Calls Tryz.prog 155 #[.func (.func 197) #[] #[.pointer (some ⟨B, 0, none⟩)], .func (.func 157) #[] #[]] W fun e w' => ∃ A4 c4, e = .returned (.slice A4 ids.length c4) ∧ Below W.heap.size W w' ∧
      Hid (∀ W' g1, Below w'.heap.size w' W' → W'.ownsRow g1 9 1 (.slice (some ⟨g1, 0, none⟩) 1 1) 1 [.string T] → g1 ≤ W'.heap.size → ∃ g c w'', (appShut #[147, 147] 147 #[.slice (some ⟨g1, 0, none⟩) 1 1, .slice A4 ids.length c4]).run Tryz.prog W' = .ok (.slice (some ⟨g, 0, none⟩) (1 + ids.length) c) w'' ∧ 1 + ids.length ≤ c ∧ g < w''.heap.size ∧ (∀ (j : Nat) x, (T :: ids.map f)[j]? = some x → w''.cell? ⟨g, 0 + j, none⟩ = some (.string x)) ∧ Below g1 W' w'')) := Lib.hid fun W B hW hB hbx => by
    refine (eachTyStr_any 157 B zs _ W (enters_of Tryz.func157 (by kernel_rfl) rfl) hB hbx (hrow.later hW) (by omega) (fun z hz => by obtain ⟨A, c, e⟩ := bsIn_slice (hbs z hz); exact ⟨A, _, c, e⟩) (fun z => f z.2) (fun W2 z hz h2 => hk W2 z.1 z.2 (by rw [← hzs]; exact List.mem_map_of_mem hz) (hbs z hz) (fun b hb' => (h2 b (Nat.lt_of_lt_of_le hb' hW.size)).trans (hW.block b hb')))).mono ?_
    rintro e w' ⟨v', rfl, hb', hr⟩
    have hx : (zs.flatMap fun x => [Value.string (f x.2)]) = (ids.map f).map Value.string := by
      rw [← hzs, List.map_map, List.map_map]
      clear hzs hrow hbs hzl hr
      induction zs with
      | nil => rfl
      | cons z zs ih => rw [List.flatMap_cons, ih]; rfl
    rw [hx, hzl] at hr
    exact app_strs2 T (ids.map f) ids.length (by simp) hl hr hb'
  obtain ⟨R, hR⟩ : ∃ R, strs T (ids.map f) = R := ⟨_, rfl⟩
  have CJ : Hid (∀ W g c, 1 + ids.length ≤ c → g < W.heap.size → (∀ (j : Nat) x, (T :: ids.map f)[j]? = some x → W.cell? ⟨g, 0 + j, none⟩ = some (.string x)) → Calls Tryz.prog 158 #[.slice (some ⟨g, 0, none⟩) (1 + ids.length) c, .string ⟨#[59, 32]⟩] W fun e w' => e = .returned (.string R) ∧ Below W.heap.size W w') := Lib.hid fun W g c hc hg hcell => by
    have hll : (T :: ids.map f).length = 1 + ids.length := by simp; omega
    have := Tryz.strings_Join g 0 c (T :: ids.map f) ⟨#[59, 32]⟩ W hcell hg (by rw [hll]; omega) (by rw [hll]; exact hc) (by
      have := hlen; unfold strs at this; simp only [ByteArray.size, List.size_toArray] at this; exact Nat.le_trans this (by omega))
    rw [hll] at this
    rw [← hR]
    exact this
  rw [hR] at hlen ⊢
  unfold arV
  unfold bsV at CB
  have HL := Lib.hid hl
  clear hb x0 hv hrow hbs hk hzs hzl hT h0 h1 hl
  go_enter Tryz.func75, Tryz.ntmps75
  go_wp2
  go_region_held3 (fun W => W.cell? ⟨w.heap.size, 0, none⟩ = some (.slice A ids.length c) ∧ W.cell? ⟨w.heap.size, 1, none⟩ = some (.bool root.cell) ∧ W.cell? ⟨w.heap.size, 2, none⟩ = some (.int .i64 root.n) ∧ W.cell? ⟨w.heap.size, 3, none⟩ = some (.bool false))
    (first
      | go_keep
      | (go_split_ands
         refine ⟨?_, ?_, ?_, ?_⟩ <;> (repeat' (first
           | assumption
           | refine cell_alloc_some _ ?_
           | refine (hb9.cell (by have h1 := hb2.size; have h2 := HX1.out; have h3 := hb5.size; simp at h1 h3 ⊢; omega)).trans ?_
           | refine (hb5.cell (by have h1 := hb2.size; have h2 := HX1.out; simp at h1 ⊢; omega)).trans ?_
           | refine (hb2.cell (by have h2 := HX1.out; simp; omega)).trans ?_)))
      | (trace_state; fail))
    (first
    | (go_at_call 154; refine (CB.out _).mono ?_; rintro e w2 ⟨rfl, hb2⟩; have hb12 : Below w.heap.size w w2 := HB.out.trans ((((Below.refl _ w1).drew).trans hb2).mono HB.out.size))
    | (go_at_call 156; refine (valuesTy_any _ _ _ _).mono ?_; rintro e w3 ⟨rfl, rfl⟩)
    | (go_at_call 155; first
        | (with_reducible refine (CE.out ((w2.alloc (.cells #[.string T] 9)).alloc (.cells #[.slice A ids.length c] 22)) (w2.heap.size + 1) ?_ ?_ ?_).mono ?_; (exact (hb12.alloc hb12.size _).alloc (by have := hb12.size; simp; omega) _); (simp); (exact boxed_new2 _ _ _ _); rintro e w5 ⟨A4, c4, rfl, hb5, hap⟩; obtain ⟨g, cc, w9, hrun, hcc, hg9, hcell9, hb9⟩ := hap.out w5 w2.heap.size (Below.refl _ _) (row_below ((own_one w2 T).alloc _) hb5) (by have := hb5.size; simp at this; omega); have hq := (hb12.alloc hb12.size (.cells #[.string T] 9)).alloc (by have := hb12.size; simp; omega) (.cells #[.slice A ids.length c] 22); have hb19 : Below w.heap.size w w9 := (hq.trans (hb5.mono hq.size)).trans (hb9.mono hb12.size); have hw9 : w.heap.size < w9.heap.size := (by have h1 := HX1.out; have h2 := hb2.size; have h3 := hb5.size; have h4 := hb9.size; simp at h2 h3 h4; omega); clear hq)
        | (with_reducible refine (CE.out ((w2.alloc (.cells #[.slice A ids.length c] 22)).alloc (.cells #[.string T] 9)) (w2.heap.size) ?_ ?_ ?_).mono ?_; (exact (hb12.alloc hb12.size _).alloc (by have := hb12.size; simp; omega) _); (simp; omega); (exact (Boxed.new _ _ _).alloc _); rintro e w5 ⟨A4, c4, rfl, hb5, hap⟩; obtain ⟨g, cc, w9, hrun, hcc, hg9, hcell9, hb9⟩ := hap.out w5 (w2.heap.size + 1) (Below.refl _ _) (row_below (by have := own_one (w2.alloc (.cells #[.slice A ids.length c] 22)) T; rwa [World.size_alloc] at this) hb5) (by have := hb5.size; simp at this; omega); have hq := (hb12.alloc hb12.size (.cells #[.slice A ids.length c] 22)).alloc (by have := hb12.size; simp; omega) (.cells #[.string T] 9); have hb19 : Below w.heap.size w w9 := (hq.trans (hb5.mono hq.size)).trans (hb9.mono (by have := hb12.size; omega)); have hw9 : w.heap.size < w9.heap.size := (by have h1 := HX1.out; have h2 := hb2.size; have h3 := hb5.size; have h4 := hb9.size; simp at h2 h3 h4; omega); clear hq)
        | (with_reducible refine (CE.out (w2.alloc (.cells #[.slice A ids.length c] 22)) w2.heap.size ?_ ?_ ?_).mono ?_; (exact hb12.alloc hb12.size _); (simp); (exact Boxed.new _ _ _); rintro e w5 ⟨A4, c4, rfl, hb5, hap⟩; obtain ⟨g, cc, w9, hrun, hcc, hg9, hcell9, hb9⟩ := hap.out (w5.alloc (.cells #[.string T] 9)) w5.heap.size ((Below.refl _ w5).alloc (Nat.le_refl _) _) (own_one w5 T) (by simp); have hq := hb12.alloc hb12.size (.cells #[.slice A ids.length c] 22); have hr := hq.trans (hb5.mono hq.size); have hb19 : Below w.heap.size w w9 := (hr.alloc hr.size _).trans (hb9.mono hr.size); have hw9 : w.heap.size < w9.heap.size := (by have h1 := HX1.out; have h2 := hb2.size; have h3 := hb5.size; have h4 := hb9.size; simp at h2 h3 h4; omega); clear hq hr)))
  all_goals (
    rename_i hheld
    obtain ⟨u0, u1, u2, u3⟩ := hheld
    have HB19 := Lib.hid hb19
    have U3 := Lib.hid u3
    have JJ := CJ.out w9 g cc hcc hg9 hcell9
    clear u0 u1 u2 u3 hb9 hap hrun hb19 hcell9 hcc hg9 c0 c1 c2 c3 hb5 hb2 hb12
    go_wp2_with (go_at_call 158; refine JJ.mono ?_; rintro e wx ⟨rfl, hbx⟩; have u3 := (hbx.cell (p := ⟨w.heap.size, 3, none⟩) (by have h1 := HB19.out.size; have h2 := HX1.out; have h3 := hw9; omega)).trans U3.out)
    go_ret
    exact ⟨rfl, HB19.out.trans (hbx.mono HB19.out.size)⟩)

theorem arenaText2_any (v : Value) (a : Ar) (f : Ty → ByteArray) (w : World) (h0 : 0 ≤ a.root.n) (h1 : a.root.n < 100) (hl : a.ids.length ≤ 1000) (hv : TyIn w w.heap.size v a.ids)
    (hlen : (strs (baseTx a.root) (a.ids.map f)).size ≤ 1000000)
    (hk : ∀ W pv x, x ∈ a.ids → BsIn w w.heap.size pv x.params → (∀ b, b < w.heap.size → W.heap[b]? = w.heap[b]?) → Calls Tryz.prog 157 #[tyV pv x.result] W fun e W' => e = .returned (.string (f x)) ∧ Below W.heap.size W W') :
    Calls Tryz.prog 75 #[arV v a.root a.jumps] w fun e w' => e = .returned (.string (arTx f a)) ∧ Below w.heap.size w w' := by
  obtain ⟨ids, root, ju⟩ := a
  cases ju with
  | true => exact arenaText2_true v ids root f w h0 h1 hl hv hlen hk
  | false => exact arenaText2_false v ids root f w h0 h1 hl hv hlen hk
end Go.Proofs.YtklfojmflmablaaGreatDoor
/- Show, of any arena; the reference's texts. -/
namespace Go.Proofs.YtklfojmflmablaaGreatDoor
open Go Go.RowKit Go.Shelf

theorem small_of_check {a : Ar} (hck : checkRes a = 0) : a.ids.length ≤ 8 ∧ (0 ≤ a.root.n ∧ a.root.n < 100) ∧ ∀ t ∈ a.ids, smallTy t := by
  obtain ⟨hs, hr, hok⟩ := check_small hck
  refine ⟨hs.1, ?_, fun t ht => ⟨hs.2 t ht, ?_, fun b hb => ?_⟩⟩
  · have := okBs_n hr; omega
  · have := okBs_n ((by have := hok t ht; unfold okTy at this; simp only [Bool.and_eq_true, List.all_eq_true] at this; exact this.2.1) : okBs t.result = true); omega
  · have := okBs_n ((by have := hok t ht; unfold okTy at this; simp only [Bool.and_eq_true, List.all_eq_true] at this; exact this.2.2 b hb) : okBs b = true); omega
theorem strs_size (T : ByteArray) (l : List ByteArray) (hT : T.size ≤ 60) (h : ∀ x ∈ l, x.size ≤ 60) : (strs T l).size ≤ 60 + l.length * 62 := by
  have key : ∀ r : List ByteArray, (∀ x ∈ r, x.size ≤ 60) → (Lib.joinTail [59, 32] (r.map (·.data.toList))).length ≤ r.length * 62 := by
    intro r
    induction r with
    | nil => intro _; simp [Lib.joinTail]
    | cons x r ih =>
      intro h
      have h1 := ih (fun y hy => h y (List.mem_cons_of_mem _ hy))
      have h2 := h x (by simp)
      have : Lib.joinTail [59, 32] ((x :: r).map (·.data.toList)) = ([59, 32] ++ x.data.toList) ++ Lib.joinTail [59, 32] (r.map (·.data.toList)) := by simp [Lib.joinTail]
      rw [this, List.length_append, List.length_append, List.length_cons]
      have e : x.data.toList.length = x.size := Array.length_toList
      rw [e]
      simp
      omega
  have h1 := key l h
  have e : T.data.toList.length = T.size := Array.length_toList
  show ((Lib.join ((T :: l).map (·.data.toList)) [59, 32]).toArray).size ≤ _
  rw [List.size_toArray, List.map_cons, Lib.join_cons, List.length_append, e]
  omega
theorem seen_cell {W : World} {b off : Nat} {v : Value} (h : W.cell? ⟨b, off, none⟩ = some v) : b < W.heap.size := by
  rcases Nat.lt_or_ge b W.heap.size with h1 | h1
  · exact h1
  · unfold World.cell? at h
    simp [Array.getElem?_eq_none h1] at h
theorem bsIn_seen {W : World} {n : Nat} {v : Value} {l : List Bs} (h : BsIn W n v l) : BsIn W W.heap.size v l := by
  obtain ⟨A, c, rfl, hA⟩ := h
  refine ⟨A, c, rfl, fun i x hx => ?_⟩
  obtain ⟨b, off, rfl, _, h1, h2⟩ := hA i x hx
  exact ⟨b, off, rfl, seen_cell h1, h1, h2⟩
theorem arTx_size {a : Ar} (hck : checkRes a = 0) : (strs (baseTx a.root) (a.ids.map typeTx)).size ≤ 600 := by
  obtain ⟨h8, hr, hall⟩ := small_of_check hck
  have := strs_size (baseTx a.root) (a.ids.map typeTx) (by have := baseTx_size hr.1 hr.2; omega) (fun x hx => by obtain ⟨t, ht, rfl⟩ := List.mem_map.1 hx; exact typeTx_size (hall t ht))
  rw [List.length_map] at this
  omega
/-- The text of an arena, or the error. -/
def showRes (a : Ar) : ByteArray × Int := if checkRes a ≠ 0 then (⟨#[]⟩, checkRes a) else (arTx typeTx a, 0)

set_option maxRecDepth 100000 in
set_option maxHeartbeats 1000000 in
theorem show2_any (v : Value) (a : Ar) (w : World) (hl : a.ids.length ≤ 1000) (hpl : ∀ t ∈ a.ids, t.params.length ≤ 1000) (hv : TyIn w w.heap.size v a.ids) :
    Calls Tryz.prog 22 #[arV v a.root a.jumps] w fun e w' => e = .returned (.tuple #[.string (showRes a).1, .int .i64 (showRes a).2]) ∧ Below w.heap.size w w' := by
  have CC : Hid (∀ W, Below w.heap.size w W → Calls Tryz.prog 20 #[arV v a.root a.jumps] W fun e w' => e = .returned (.int .i64 (checkRes a)) ∧ Below W.heap.size W w') := Lib.hid fun W hW => check_any v a W (by omega) (fun t ht => by have := hpl t ht; omega) (tyIn_later hv hW)
  obtain ⟨w1, hw1⟩ : ∃ w1, (w.alloc (.cells #[v, .bool a.root.cell, .int .i64 a.root.n, .bool a.jumps] 26)) = w1 := ⟨_, rfl⟩
  have hb : Below w.heap.size w w1 := by rw [← hw1]; exact (Below.refl _ w).alloc (Nat.le_refl _) _
  have x0 : BoxA w1 w.heap.size v a.root a.jumps := by rw [← hw1]; exact World.alloc_heap_new w _
  have HB := Lib.hid hb
  have HX0 := Lib.hid x0
  have c0 := cell_of_row w1 _ 0 _ 26 (0, 0) x0
  have c1 := cell_of_row w1 _ 1 _ 26 (0, 0) x0
  have c2 := cell_of_row w1 _ 2 _ 26 (0, 0) x0
  have c3 := cell_of_row w1 _ 3 _ 26 (0, 0) x0
  by_cases hck : checkRes a = 0
  · have hS : showRes a = (arTx typeTx a, 0) := by unfold showRes; rw [if_neg (by rw [hck]; simp)]
    obtain ⟨h8, hr, hall⟩ := small_of_check hck
    have CT : Hid (∀ W, Below w.heap.size w W → Calls Tryz.prog 75 #[arV v a.root a.jumps] W fun e w' => e = .returned (.string (arTx typeTx a)) ∧ Below W.heap.size W w') := Lib.hid fun W hW =>
      arenaText2_any v a typeTx W hr.1 hr.2 (by omega) (tyIn_later hv hW) (by have := arTx_size hck; omega) (fun W2 pv x hx hp h2 => typeText_any pv x W2 (hall x hx) (bsIn_seen (hp.below h2)))
    rw [hS]
    rw [hck] at CC
    unfold arV at CC CT ⊢
    obtain ⟨A, hA⟩ : ∃ A, arTx typeTx a = A := ⟨_, rfl⟩
    rw [hA] at CT ⊢
    have hne : ((0 : Int) != 0) = false := rfl
    clear hb x0 hv hck hr h8 hall hA hS
    go_enter Tryz.func22, Tryz.ntmps22
    go_wp2_with (first
      | (go_at_call 20; refine (CC.out _ HB.out).mono ?_; rintro e w2 ⟨rfl, hb2⟩; have z0 := (hb2.block _ HX0.out.lt).trans HX0.out; have c0 := cell_of_row w2 _ 0 _ 26 (0, 0) z0; have c1 := cell_of_row w2 _ 1 _ 26 (0, 0) z0; have c2 := cell_of_row w2 _ 2 _ 26 (0, 0) z0; have c3 := cell_of_row w2 _ 3 _ 26 (0, 0) z0)
      | (go_at_call 75; refine (CT.out _ (HB.out.trans (hb2.mono HB.out.size))).mono ?_; rintro e w3 ⟨rfl, hb3⟩))
    refine bodyPost_ret (results_tmp2 rfl _ _ _) rfl ?_
    have h12 := HB.out.trans (hb2.mono HB.out.size)
    exact ⟨rfl, h12.trans (hb3.mono h12.size)⟩
  · have hS : showRes a = (⟨#[]⟩, checkRes a) := by unfold showRes; rw [if_pos hck]
    rw [hS]
    obtain ⟨r, hr⟩ : ∃ r, checkRes a = r := ⟨_, rfl⟩
    rw [hr] at CC hck ⊢
    have hne : (r != 0) = true := by simpa using hck
    unfold arV at CC ⊢
    clear hb x0 hv hr hS hck
    go_enter Tryz.func22, Tryz.ntmps22
    go_wp2_with (go_at_call 20; refine (CC.out _ HB.out).mono ?_; rintro e w2 ⟨rfl, hb2⟩)
    refine bodyPost_ret (results_tmp2 rfl _ _ _) rfl ?_
    exact ⟨rfl, HB.out.trans (hb2.mono HB.out.size)⟩
end Go.Proofs.YtklfojmflmablaaGreatDoor
/- The reference's texts of types and arenas. -/
namespace Go.Proofs.YtklfojmflmablaaGreatDoor
open Go Go.RowKit Go.Shelf

theorem add_lits (W : World) (a b c : ByteArray) (h : a ++ b = c) (hs : a.size + b.size ≤ 140737488355328) : (Op.stringOp .add a b).run Tryz.prog W = .ok (.string c) W ∧ (Go.binOp .add 9 (.string a) (.string b)).run Tryz.prog W = .ok (.string c) W := by
  have a1 : (Op.stringOp .add a b).run Tryz.prog W = .ok (.string (a ++ b)) W := run_string_add_sum W _ _ (by omega)
  rw [h] at a1
  exact ⟨a1, by simp [Go.binOp, a1]⟩

set_option maxRecDepth 100000 in
theorem refBaseText_any (b : Bs) (w : World) (h0 : 0 ≤ b.n) (h : b.n < 100) : Calls Tryz.prog 77 #[bsV b] w fun e w' => e = .returned (.string (baseTx b)) ∧ Below w.heap.size w w' := by
  obtain ⟨ce, n⟩ := b
  dsimp only at h0 h
  have HB := Lib.hid ((Below.refl _ w).alloc (Nat.le_refl _) (.cells #[.bool ce, .int .i64 n] 24))
  have CI : Hid (∀ W, Calls Tryz.prog 159 #[.int .i64 n] W fun e w' => e = .returned (.string (numTx n)) ∧ W = w') := Lib.hid fun W => by
    have := decimal_any n.toNat (by omega) W
    rwa [show ((n.toNat : Nat) : Int) = n by omega] at this
  have hsz := numTx_size h0 h
  unfold bsV baseTx
  obtain ⟨T, hT⟩ : ∃ T, numTx n = T := ⟨_, rfl⟩
  rw [hT] at CI hsz
  dsimp only
  rw [hT]
  clear hT h0 h
  cases ce with
  | false =>
    obtain ⟨R, hR⟩ : ∃ R, (⟨#[105, 110, 116, 32]⟩ : ByteArray) ++ T = R := ⟨_, rfl⟩
    have hz : (⟨#[105, 110, 116, 32]⟩ : ByteArray).size = 4 := rfl
    have a1 := fun W => (add_lits W _ _ _ hR (by omega)).1
    have a2 := fun W => (add_lits W _ _ _ hR (by omega)).2
    have hg : ((if false = true then (⟨#[99, 101, 108, 108]⟩ : ByteArray) else ⟨#[105, 110, 116]⟩) ++ (⟨#[32]⟩ : ByteArray)) ++ T = R := by rw [← hR]; rfl
    rw [hg]
    clear hR hg
    go_enter Tryz.func77, Tryz.ntmps77
    go_wp2_with (go_at_call 159; refine (CI.out _).mono ?_; rintro e w2 ⟨rfl, rfl⟩)
    go_ret
    exact ⟨rfl, HB.out⟩
  | true =>
    obtain ⟨R, hR⟩ : ∃ R, (⟨#[99, 101, 108, 108, 32]⟩ : ByteArray) ++ T = R := ⟨_, rfl⟩
    have hz : (⟨#[99, 101, 108, 108, 32]⟩ : ByteArray).size = 5 := rfl
    have a1 := fun W => (add_lits W _ _ _ hR (by omega)).1
    have a2 := fun W => (add_lits W _ _ _ hR (by omega)).2
    have hg : ((if true = true then (⟨#[99, 101, 108, 108]⟩ : ByteArray) else ⟨#[105, 110, 116]⟩) ++ (⟨#[32]⟩ : ByteArray)) ++ T = R := by rw [← hR]; rfl
    rw [hg]
    clear hR hg
    go_enter Tryz.func77, Tryz.ntmps77
    go_wp2_with (go_at_call 159; refine (CI.out _).mono ?_; rintro e w2 ⟨rfl, rfl⟩)
    go_ret
    exact ⟨rfl, HB.out⟩

/-- What the reference has come to after so many params. -/
def outTx (l : List ByteArray) : ByteArray := ⟨#[40]⟩ ++ (if l = [] then ⟨#[]⟩ else jn l)
theorem outTx_nil : outTx [] = ⟨#[40]⟩ := rfl
theorem outTx_one (x : ByteArray) : outTx ([] ++ [x]) = outTx [] ++ x := by
  unfold outTx
  rw [if_neg (by simp), if_pos rfl, List.nil_append, jn_one]
  rfl
theorem outTx_more (l : List ByteArray) (x : ByteArray) (h : l ≠ []) : outTx (l ++ [x]) = (outTx l ++ ⟨#[44, 32]⟩) ++ x := by
  unfold outTx
  rw [if_neg (by simp), if_neg h, jn_snoc l x h, ByteArray.append_assoc, ByteArray.append_assoc, ByteArray.append_assoc]
theorem outTx_size (l : List ByteArray) (h : ∀ x ∈ l, x.size ≤ 7) : (outTx l).size ≤ 1 + l.length * 9 := by
  unfold outTx
  rw [ByteArray.size_append]
  have h1 : (⟨#[40]⟩ : ByteArray).size = 1 := rfl
  have h2 := jn_size l h
  split
  · have : (⟨#[]⟩ : ByteArray).size = 0 := rfl
    omega
  · omega

set_option maxRecDepth 100000 in
set_option maxHeartbeats 1000000 in
theorem refTypeText_any (pv : Value) (t : Ty) (w : World) (ht : smallTy t) (hv : BsIn w w.heap.size pv t.params) :
    Calls Tryz.prog 78 #[tyV pv t.result] w fun e w' => e = .returned (.string (typeTx t)) ∧ Below w.heap.size w w' := by
  obtain ⟨h5, hr, hps⟩ := ht
  have hbs := baseTx_size hr.1 hr.2
  have CB : Hid (∀ W, Calls Tryz.prog 77 #[bsV t.result] W fun e w' => e = .returned (.string (baseTx t.result)) ∧ Below W.heap.size W w') := Lib.hid fun W => refBaseText_any t.result W hr.1 hr.2
  obtain ⟨A, c, rfl, hA⟩ := hv
  have HA := Lib.hid hA
  have HPS := Lib.hid hps
  obtain ⟨m, hm⟩ : ∃ m, t.params.length = m := ⟨_, rfl⟩
  have HM := Lib.hid hm
  obtain ⟨R, hR⟩ : ∃ R, baseTx t.result = R := ⟨_, rfl⟩
  have HTX : Hid (typeTx t = if m = 0 then R else (outTx (t.params.map baseTx) ++ ⟨#[41, 32, 45, 62, 32]⟩) ++ R) := Lib.hid (by
    unfold typeTx
    by_cases h : t.params = []
    · rw [if_pos h, if_pos (by rw [← hm, h]; rfl), hR]
    · rw [if_neg h, if_neg (by rw [← hm]; exact fun e => h (List.length_eq_zero_iff.1 e)), hR]
      unfold outTx
      rw [if_neg (by simpa using h)])
  rw [hR] at hbs CB
  rw [hm] at h5 ⊢
  obtain ⟨w1, hw1⟩ : ∃ w1, w.alloc (.cells #[.slice A m c, .bool t.result.cell, .int .i64 t.result.n] 64) = w1 := ⟨_, rfl⟩
  have hb : Below w.heap.size w w1 := by rw [← hw1]; exact (Below.refl _ w).alloc (Nat.le_refl _) _
  have x0 : w1.heap[w.heap.size]? = some (.cells #[.slice A m c, .bool t.result.cell, .int .i64 t.result.n] 64 (0, 0)) := by rw [← hw1]; exact World.alloc_heap_new w _
  have HB := Lib.hid hb
  have HXL := Lib.hid (show w.heap.size < w1.heap.size from (Array.getElem?_eq_some_iff.1 x0).1)
  have c0 := cell_of_row w1 _ 0 _ 64 (0, 0) x0
  have c1 := cell_of_row w1 _ 1 _ 64 (0, 0) x0
  have c2 := cell_of_row w1 _ 2 _ 64 (0, 0) x0
  unfold tyV
  unfold bsV at CB
  clear hb x0 hA hR hps hm hr
  by_cases h0 : m = 0
  · subst h0
    rw [HTX.out, if_pos rfl]
    clear HTX
    go_enter Tryz.func78, Tryz.ntmps78
    go_wp2_with (go_at_call 77; refine (CB.out _).mono ?_; rintro e w2 ⟨rfl, hb2⟩)
    go_ret
    exact ⟨rfl, HB.out.trans (hb2.mono HB.out.size)⟩
  · have hm0 : ((m : Int) == 0) = false := by
      have : (m : Int) ≠ 0 := by omega
      simpa using this
    rw [HTX.out, if_neg h0]
    clear HTX
    go_enter Tryz.func78, Tryz.ntmps78
    go_wp2
    go_loopw [3, 4] (fun o k wr => ∃ (j : Nat) (O : ByteArray), k = .int .i64 (j : Int) ∧ o = .string O ∧ j ≤ m ∧ Hid (O = outTx ((t.params.map baseTx).take j)) ∧ Hid (Below w1.heap.size w1 wr)) (fun _ k _ => m + 1 - (intOf k).toNat)
    case atStart => exact ⟨0, _, rfl, rfl, Nat.zero_le _, Lib.hid (by rw [List.take_zero]; rfl), Lib.hid (Below.refl _ _)⟩
    case round =>
      obtain ⟨j, O, rfl, rfl, hj, HO, hB⟩ := hrel
      have hsO : O.size ≤ 50 := by
        rw [HO.out]
        have := outTx_size ((t.params.map baseTx).take j) (fun x hx => by obtain ⟨b, hb, rfl⟩ := List.mem_map.1 (List.mem_of_mem_take hx); exact baseTx_size (HPS.out b hb).1 (HPS.out b hb).2)
        have h2 : ((t.params.map baseTx).take j).length ≤ 5 := by rw [List.length_take, List.length_map, HM.out]; omega
        omega
      have q0 := (hB.out.cell (p := ⟨w.heap.size, 0, none⟩) HXL.out).trans c0
      by_cases hlt : j < m
      · have hle : (j : Int) < (m : Int) := by omega
        have k0 : (0 : Int) ≤ (j : Int) := by omega
        obtain ⟨y, hy⟩ : ∃ y, t.params[j]? = some y := ⟨_, List.getElem?_eq_getElem (by have := HM.out; omega)⟩
        have hyb := HPS.out y (List.mem_of_getElem? hy)
        have HTK : Hid ((t.params.map baseTx).take (j + 1) = (t.params.map baseTx).take j ++ [baseTx y]) := Lib.hid (take_snoc (by rw [List.getElem?_map, hy]; rfl))
        have hys := baseTx_size hyb.1 hyb.2
        have CY : Hid (∀ W, Calls Tryz.prog 77 #[bsV y] W fun e w' => e = .returned (.string (baseTx y)) ∧ Below W.heap.size W w') := Lib.hid fun W => refBaseText_any y W hyb.1 hyb.2
        obtain ⟨b, off, rfl, hbn, e0, e1⟩ := HA.out j y hy
        have HW : Hid (∀ b, b < w.heap.size → wr.heap[b]? = w.heap[b]?) := Lib.hid (HB.out.trans (hB.out.mono HB.out.size)).block
        replace e0 := (World.cell?_of_block (HW.out b hbn)).trans e0
        replace e1 := (World.cell?_of_block (HW.out b hbn)).trans e1
        obtain ⟨Y, hY⟩ : ∃ Y, baseTx y = Y := ⟨_, rfl⟩
        rw [hY] at HTK hys CY
        unfold bsV at CY
        have hcm : (⟨#[44, 32]⟩ : ByteArray).size = 2 := rfl
        clear hy hyb hY
        by_cases hj0 : j = 0
        · subst hj0
          simp only [Nat.zero_mul, Nat.add_zero] at e0 e1
          have hgt : ¬ ((0 : Int) < ((0 : Nat) : Int)) := by omega
          obtain ⟨O2, hO2⟩ : ∃ O2, O ++ Y = O2 := ⟨_, rfl⟩
          have a1 := fun W => (add_lits W _ _ _ hO2 (by omega)).1
          have a2 := fun W => (add_lits W _ _ _ hO2 (by omega)).2
          have HO2 : Hid (O2 = outTx ((t.params.map baseTx).take (0 + 1))) := Lib.hid (by rw [HTK.out, List.take_zero, outTx_one, ← hO2, HO.out, List.take_zero])
          clear hO2
          go_wp2_with (go_at_call 77; refine (CY.out _).mono ?_; rintro e w4 ⟨rfl, hb4⟩)
          go_roundw
          case rel => exact ⟨1, O2, by simp, rfl, by omega, HO2, Lib.hid (hB.out.trans (hb4.mono hB.out.size))⟩
          case measure => simp [intOf]
        · have hgt : (0 : Int) < (j : Int) := by omega
          obtain ⟨O1, hO1⟩ : ∃ O1, O ++ (⟨#[44, 32]⟩ : ByteArray) = O1 := ⟨_, rfl⟩
          have hs1 : O1.size = O.size + 2 := by rw [← hO1, ByteArray.size_append]; rfl
          obtain ⟨O2, hO2⟩ : ∃ O2, O1 ++ Y = O2 := ⟨_, rfl⟩
          have a1 := fun W => (add_lits W _ _ _ hO1 (by omega)).1
          have a2 := fun W => (add_lits W _ _ _ hO1 (by omega)).2
          have a3 := fun W => (add_lits W _ _ _ hO2 (by omega)).1
          have a4 := fun W => (add_lits W _ _ _ hO2 (by omega)).2
          have HO2 : Hid (O2 = outTx ((t.params.map baseTx).take (j + 1))) := Lib.hid (by
            rw [HTK.out, outTx_more _ _ (by
              intro e
              have := congrArg List.length e
              rw [List.length_take, List.length_map, HM.out] at this
              simp at this
              omega), ← hO2, ← hO1, HO.out])
          clear hO1 hO2 hj0
          go_wp2_with (go_at_call 77; refine (CY.out _).mono ?_; rintro e w4 ⟨rfl, hb4⟩)
          go_roundw
          case rel => exact ⟨j + 1, O2, by simp, rfl, by omega, HO2, Lib.hid (hB.out.trans (hb4.mono hB.out.size))⟩
          case measure => simp [intOf]; omega
      · obtain rfl : j = m := by omega
        have hnl : ¬ ((j : Int) < (j : Int)) := by omega
        have q1 := (hB.out.cell (p := ⟨w.heap.size, 1, none⟩) HXL.out).trans c1
        have q2 := (hB.out.cell (p := ⟨w.heap.size, 2, none⟩) HXL.out).trans c2
        have hz : (⟨#[41, 32, 45, 62, 32]⟩ : ByteArray).size = 5 := rfl
        obtain ⟨O1, hO1⟩ : ∃ O1, O ++ (⟨#[41, 32, 45, 62, 32]⟩ : ByteArray) = O1 := ⟨_, rfl⟩
        have hs1 : O1.size = O.size + 5 := by rw [← hO1, ByteArray.size_append]; rfl
        obtain ⟨O2, hO2⟩ : ∃ O2, O1 ++ R = O2 := ⟨_, rfl⟩
        have a1 := fun W => (add_lits W _ _ _ hO1 (by omega)).1
        have a2 := fun W => (add_lits W _ _ _ hO1 (by omega)).2
        have a3 := fun W => (add_lits W _ _ _ hO2 (by omega)).1
        have a4 := fun W => (add_lits W _ _ _ hO2 (by omega)).2
        have HF : Hid ((outTx (t.params.map baseTx) ++ ⟨#[41, 32, 45, 62, 32]⟩) ++ R = O2) := Lib.hid (by
          rw [← hO2, ← hO1, HO.out, List.take_of_length_le (by rw [List.length_map, HM.out]; omega)])
        clear hO1 hO2
        go_wp2_with (go_at_call 77; refine (CB.out _).mono ?_; rintro e w4 ⟨rfl, hb4⟩)
        go_ret
        exact ⟨(by rw [HF.out]; rfl), HB.out.trans ((hB.out.trans (hb4.mono hB.out.size)).mono HB.out.size)⟩
end Go.Proofs.YtklfojmflmablaaGreatDoor
/- The reference's Show. -/
namespace Go.Proofs.YtklfojmflmablaaGreatDoor
open Go Go.RowKit Go.Shelf

set_option maxRecDepth 100000 in
set_option maxHeartbeats 1000000 in
theorem refShow_any (v : Value) (a : Ar) (w : World) (hl : a.ids.length ≤ 1000) (hpl : ∀ t ∈ a.ids, t.params.length ≤ 1000) (hv : TyIn w w.heap.size v a.ids) :
    Calls Tryz.prog 24 #[arV v a.root a.jumps] w fun e w' => e = .returned (.tuple #[.string (showRes a).1, .int .i64 (showRes a).2]) ∧ Below w.heap.size w w' := by
  have CC : Hid (∀ W, Below w.heap.size w W → Calls Tryz.prog 25 #[arV v a.root a.jumps] W fun e w' => e = .returned (.int .i64 (checkRes a)) ∧ Below W.heap.size W w') := Lib.hid fun W hW => refCheck_any v a W hl hpl (tyIn_later hv hW)
  obtain ⟨A, c, rfl, hA⟩ := hv
  have HA := Lib.hid hA
  obtain ⟨m, hm⟩ : ∃ m, a.ids.length = m := ⟨_, rfl⟩
  have HM := Lib.hid hm
  rw [hm] at CC ⊢
  obtain ⟨w1, hw1⟩ : ∃ w1, (w.alloc (.cells #[.slice A m c, .bool a.root.cell, .int .i64 a.root.n, .bool a.jumps] 26)) = w1 := ⟨_, rfl⟩
  have hb : Below w.heap.size w w1 := by rw [← hw1]; exact (Below.refl _ w).alloc (Nat.le_refl _) _
  have x0 : BoxA w1 w.heap.size (.slice A m c) a.root a.jumps := by rw [← hw1]; exact World.alloc_heap_new w _
  have HB := Lib.hid hb
  have HX0 := Lib.hid x0
  have HXL := Lib.hid x0.lt
  have c0 := cell_of_row w1 _ 0 _ 26 (0, 0) x0
  have c1 := cell_of_row w1 _ 1 _ 26 (0, 0) x0
  have c2 := cell_of_row w1 _ 2 _ 26 (0, 0) x0
  have c3 := cell_of_row w1 _ 3 _ 26 (0, 0) x0
  by_cases hck : checkRes a = 0
  · have HS : Hid (showRes a = (arTx typeTx a, 0)) := Lib.hid (by unfold showRes; rw [if_neg (by rw [hck]; simp)])
    obtain ⟨h8, hr, hall⟩ := small_of_check hck
    have HALL := Lib.hid hall
    have HSZ := Lib.hid (arTx_size hck)
    have hrs := baseTx_size hr.1 hr.2
    have CB : Hid (∀ W, Calls Tryz.prog 77 #[bsV a.root] W fun e w' => e = .returned (.string (baseTx a.root)) ∧ Below W.heap.size W w') := Lib.hid fun W => refBaseText_any a.root W hr.1 hr.2
    have HPRE : Hid (∀ j, (strs (baseTx a.root) ((a.ids.take j).map typeTx)).size ≤ 600) := Lib.hid fun j => by
      have := strs_size (baseTx a.root) ((a.ids.take j).map typeTx) (by omega) (fun x hx => by obtain ⟨t, ht, rfl⟩ := List.mem_map.1 hx; exact typeTx_size (hall t (List.mem_of_mem_take ht)))
      rw [List.length_map, List.length_take] at this
      omega
    have hm8 : m ≤ 8 := by omega
    obtain ⟨ju, hj⟩ : ∃ j, a.jumps = j := ⟨_, rfl⟩
    have HJ := Lib.hid hj
    rw [HS.out]
    rw [hck] at CC
    unfold arV at CC ⊢
    unfold bsV at CB
    have hne : ((0 : Int) != 0) = false := rfl
    clear hb x0 hck hr h8 hall hm hA hpl hj
    go_enter Tryz.func24, Tryz.ntmps24
    go_wp2_with (first
      | (go_at_call 25; refine (CC.out _ HB.out).mono ?_; rintro e w2 ⟨rfl, hb2⟩; have z0 := (hb2.block _ HX0.out.lt).trans HX0.out; have HB2 := Lib.hid hb2; have p0 := cell_of_row w2 _ 0 _ 26 (0, 0) z0; have p1 := cell_of_row w2 _ 1 _ 26 (0, 0) z0; have p2 := cell_of_row w2 _ 2 _ 26 (0, 0) z0; have p3 := cell_of_row w2 _ 3 _ 26 (0, 0) z0)
      | (go_at_call 77; refine (CB.out _).mono ?_; rintro e w3 ⟨rfl, hb3⟩; have HB3 : Hid (Below w1.heap.size w1 w3) := Lib.hid (HB2.out.trans (hb3.mono HB2.out.size))))
    go_loopw [5, 6] (fun o k wr => ∃ (j : Nat) (O : ByteArray), k = .int .i64 (j : Int) ∧ o = .string O ∧ j ≤ m ∧ Hid (O = strs (baseTx a.root) ((a.ids.take j).map typeTx)) ∧ Hid (Below w1.heap.size w1 wr)) (fun _ k _ => m + 1 - (intOf k).toNat)
    case atStart => exact ⟨0, _, rfl, rfl, Nat.zero_le _, Lib.hid (by rw [List.take_zero, List.map_nil, strs_nil]), HB3⟩
    case round =>
      obtain ⟨j, O, rfl, rfl, hj, HO, hB⟩ := hrel
      have hsO : O.size ≤ 600 := by rw [HO.out]; exact HPRE.out j
      have q0 := (hB.out.cell (p := ⟨w.heap.size, 0, none⟩) HXL.out).trans c0
      by_cases hlt : j < m
      · have hle : (j : Int) < (m : Int) := by omega
        have k0 : (0 : Int) ≤ (j : Int) := by omega
        obtain ⟨y, hy⟩ : ∃ y, a.ids[j]? = some y := ⟨_, List.getElem?_eq_getElem (by have := HM.out; omega)⟩
        have hys := HALL.out y (List.mem_of_getElem? hy)
        have hts := typeTx_size hys
        have HTK : Hid ((a.ids.take (j + 1)).map typeTx = (a.ids.take j).map typeTx ++ [typeTx y]) := Lib.hid (by rw [take_snoc hy, List.map_append]; rfl)
        obtain ⟨b, off, pv, rfl, hbn, hbs, e0, e1, e2⟩ := HA.out j y hy
        have HBW : Hid (Below w.heap.size w wr) := Lib.hid (HB.out.trans (hB.out.mono HB.out.size))
        have CY : Hid (∀ W, Below wr.heap.size wr W → Calls Tryz.prog 78 #[tyV pv y.result] W fun e w' => e = .returned (.string (typeTx y)) ∧ Below W.heap.size W w') := Lib.hid fun W hW => refTypeText_any pv y W hys (bsIn_later hbs (HBW.out.trans (hW.mono HBW.out.size)))
        replace e0 := (World.cell?_of_block (HBW.out.block b hbn)).trans e0
        replace e1 := (World.cell?_of_block (HBW.out.block b hbn)).trans e1
        replace e2 := (World.cell?_of_block (HBW.out.block b hbn)).trans e2
        obtain ⟨Y, hY⟩ : ∃ Y, typeTx y = Y := ⟨_, rfl⟩
        rw [hY] at HTK hts CY
        have hz : (⟨#[59, 32]⟩ : ByteArray).size = 2 := rfl
        obtain ⟨O1, hO1⟩ : ∃ O1, (⟨#[59, 32]⟩ : ByteArray) ++ Y = O1 := ⟨_, rfl⟩
        have hs1 : O1.size = 2 + Y.size := by rw [← hO1, ByteArray.size_append]; rfl
        obtain ⟨O2, hO2⟩ : ∃ O2, O ++ O1 = O2 := ⟨_, rfl⟩
        have a1 := fun W => (add_lits W _ _ _ hO1 (by omega)).1
        have a2 := fun W => (add_lits W _ _ _ hO1 (by omega)).2
        have a3 := fun W => (add_lits W _ _ _ hO2 (by omega)).1
        have a4 := fun W => (add_lits W _ _ _ hO2 (by omega)).2
        have HO2 : Hid (O2 = strs (baseTx a.root) ((a.ids.take (j + 1)).map typeTx)) := Lib.hid (by rw [HTK.out, strs_snoc, ← hO2, ← hO1, HO.out])
        obtain ⟨pA, pc, rfl⟩ := bsIn_slice hbs
        unfold tyV at CY
        clear hy hys hbs hY hO1 hO2
        go_wp2_with (go_at_call 78; refine (CY.out _ (Below.refl _ _)).mono ?_; rintro e w4 ⟨rfl, hb4⟩)
        go_roundw
        case rel => exact ⟨j + 1, O2, by simp, rfl, by omega, HO2, Lib.hid (hB.out.trans (hb4.mono hB.out.size))⟩
        case measure => simp [intOf]; omega
      · obtain rfl : j = m := by omega
        have hnl : ¬ ((j : Int) < (j : Int)) := by omega
        have q3 := (hB.out.cell (p := ⟨w.heap.size, 3, none⟩) HXL.out).trans c3
        have HOF : Hid (O = strs (baseTx a.root) (a.ids.map typeTx)) := Lib.hid (by rw [HO.out, List.take_of_length_le (by have := HM.out; omega)])
        have hj2 := HJ.out
        rw [hj2] at q3
        clear hj2
        cases ju with
        | true =>
          have hz : (⟨#[59, 32, 106, 117, 109, 112, 115]⟩ : ByteArray).size = 7 := rfl
          obtain ⟨O1, hO1⟩ : ∃ O1, O ++ (⟨#[59, 32, 106, 117, 109, 112, 115]⟩ : ByteArray) = O1 := ⟨_, rfl⟩
          have a1 := fun W => (add_lits W _ _ _ hO1 (by omega)).1
          have a2 := fun W => (add_lits W _ _ _ hO1 (by omega)).2
          have HF : Hid (arTx typeTx a = O1) := Lib.hid (by unfold arTx; rw [HJ.out, if_pos rfl, ← hO1, HOF.out]; rfl)
          clear hO1
          go_wp2_with fail
          refine bodyPost_ret (results_tmp2 rfl _ _ _) rfl ?_
          exact ⟨(by rw [HF.out]; rfl), HB.out.trans (hB.out.mono HB.out.size)⟩
        | false =>
          have HF : Hid (arTx typeTx a = O) := Lib.hid (by unfold arTx; rw [HJ.out, if_neg (by simp), HOF.out])
          go_wp2_with fail
          refine bodyPost_ret (results_tmp2 rfl _ _ _) rfl ?_
          exact ⟨(by rw [HF.out]; rfl), HB.out.trans (hB.out.mono HB.out.size)⟩
  · have hS : showRes a = (⟨#[]⟩, checkRes a) := by unfold showRes; rw [if_pos hck]
    rw [hS]
    obtain ⟨r, hr⟩ : ∃ r, checkRes a = r := ⟨_, rfl⟩
    rw [hr] at CC hck ⊢
    have hne : (r != 0) = true := by simpa using hck
    unfold arV at CC ⊢
    clear hb x0 hr hS hck hA hm hpl
    go_enter Tryz.func24, Tryz.ntmps24
    go_wp2_with (go_at_call 25; refine (CC.out _ HB.out).mono ?_; rintro e w2 ⟨rfl, hb2⟩)
    refine bodyPost_ret (results_tmp2 rfl _ _ _) rfl ?_
    exact ⟨rfl, HB.out.trans (hb2.mono HB.out.size)⟩
end Go.Proofs.YtklfojmflmablaaGreatDoor
