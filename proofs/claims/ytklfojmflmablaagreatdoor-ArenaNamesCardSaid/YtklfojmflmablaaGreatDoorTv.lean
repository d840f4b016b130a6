/- Package arena: Show; texts of moves. -/
import Derived.Test.YtklfojmflmablaaGreatDoorAt
namespace Go.Proofs.YtklfojmflmablaaGreatDoor
open Go Go.RowKit Go.Shelf

def showTx (f : Ty → ByteArray) (a : Ar) : ByteArray := if checkRes a = 0 then arTx f a else ⟨#[]⟩
set_option maxRecDepth 100000 in
theorem show_any (v : Value) (a : Ar) (f : Ty → ByteArray) (w : World) (hck : checkRes a = 0) (hne : a.ids ≠ []) (hv : TyIn w w.heap.size v a.ids)
    (hlen : (strs (baseTx a.root) (a.ids.map f)).size ≤ 1000000)
    (hk : ∀ W0 W pv x, Below w.heap.size w W0 → x ∈ a.ids → BsIn W0 W0.heap.size pv x.params → (∀ b, b < W0.heap.size → W.heap[b]? = W0.heap[b]?) → Calls Tryz.prog 157 #[tyV pv x.result] W fun e W' => e = .returned (.string (f x)) ∧ Below W.heap.size W W') :
    Calls Tryz.prog 22 #[arV v a.root a.jumps] w fun e w' => e = .returned (.tuple #[.string (arTx f a), .int .i64 0]) ∧ Below w.heap.size w w' := by
  obtain ⟨hs, hr, _⟩ := check_small hck
  have hr' := okBs_n hr
  have hl8 := hs.1
  obtain ⟨w1, hw1⟩ : ∃ w1, (w.alloc (.cells #[v, .bool a.root.cell, .int .i64 a.root.n, .bool a.jumps] 26)) = w1 := ⟨_, rfl⟩
  have hb : Below w.heap.size w w1 := by rw [← hw1]; exact (Below.refl _ w).alloc (Nat.le_refl _) _
  have x0 : w1.heap[w.heap.size]? = some (.cells #[v, .bool a.root.cell, .int .i64 a.root.n, .bool a.jumps] 26 (0, 0)) := by rw [← hw1]; exact World.alloc_heap_new w _
  have HB := Lib.hid hb
  have HX0 := Lib.hid x0
  have HV := Lib.hid hv
  have c0 := cell_of_row w1 _ 0 _ 26 (0, 0) x0
  have c1 := cell_of_row w1 _ 1 _ 26 (0, 0) x0
  have c2 := cell_of_row w1 _ 2 _ 26 (0, 0) x0
  have c3 := cell_of_row w1 _ 3 _ 26 (0, 0) x0
  have CC : Hid (Calls Tryz.prog 20 #[arV v a.root a.jumps] w1 fun e w' => e = .returned (.int .i64 0) ∧ Below w1.heap.size w1 w') := Lib.hid (by
    have := check_any v a w1 (by omega) (fun t ht => by have := hs.2 t ht; omega) (tyIn_later hv hb)
    rw [hck] at this
    exact this)
  have CT : Hid (∀ W, Below w.heap.size w W → Calls Tryz.prog 75 #[arV v a.root a.jumps] W fun e w' => e = .returned (.string (arTx f a)) ∧ Below W.heap.size W w') := Lib.hid fun W hW =>
    arenaText_any v a f W (by omega) (by omega) hne (by omega) (tyIn_later hv hW) hlen (fun W2 pv x hx hp h2 => hk W W2 pv x hW hx hp h2)
  unfold arV at CC CT ⊢
  obtain ⟨A, hA⟩ : ∃ A, arTx f a = A := ⟨_, rfl⟩
  rw [hA] at CT ⊢
  clear hb x0 hv hlen hk hck hr hr' hl8 hs hA
  go_enter Tryz.func22, Tryz.ntmps22
  go_wp2_with (first
    | (go_at_call 20; refine CC.out.mono ?_; rintro e w2 ⟨rfl, hb2⟩; have z0 := (hb2.block _ (Array.getElem?_eq_some_iff.1 HX0.out).1).trans HX0.out; have c0 := cell_of_row w2 _ 0 _ 26 (0, 0) z0; have c1 := cell_of_row w2 _ 1 _ 26 (0, 0) z0; have c2 := cell_of_row w2 _ 2 _ 26 (0, 0) z0; have c3 := cell_of_row w2 _ 3 _ 26 (0, 0) z0)
    | (go_at_call 75; refine (CT.out _ (HB.out.trans (hb2.mono HB.out.size))).mono ?_; rintro e w3 ⟨rfl, hb3⟩))
  refine bodyPost_ret (results_tmp2 rfl _ _ _) rfl ?_
  have h12 := HB.out.trans (hb2.mono HB.out.size)
  exact ⟨rfl, h12.trans (hb3.mono h12.size)⟩

def sgArr (n : Nat) : Array MapEntry := (([(1, ⟨#[63]⟩), (2, ⟨#[61]⟩), (3, ⟨#[33]⟩)] : List (Int × ByteArray)).take n).zipIdx.map (fun x => (⟨.int .u8 x.1.1, .string x.1.2, x.2⟩ : MapEntry)) |>.toArray
def SgMap (w : World) (b : Nat) : Prop := w.heap[b]? = some (.map (sgArr 3) 3)
theorem alloc_set (w : World) (o o' : Obj) : ({ w.alloc o with heap := (w.alloc o).heap.setIfInBounds w.heap.size o' } : World) = w.alloc o' := by
  show ({ w with heap := (w.heap.push o).setIfInBounds w.heap.size o' } : World) = { w with heap := w.heap.push o' }
  congr 1
  apply Array.ext'
  simp
theorem sg_put (n : Nat) (s : Int) (v : ByteArray) (h1 : Instr.findNow (.int .u8) (.int .u8 s) (sgArr n).toList 0 = some none) (h2 : (sgArr n).push ⟨.int .u8 s, .string v, n⟩ = sgArr (n + 1)) (w : World) :
    (Instr.mapUpdate 140 (.map (some w.heap.size)) (.int .u8 s) (.string v)).run Tryz.prog (w.alloc (.map (sgArr n) n)) = .ok () (w.alloc (.map (sgArr (n + 1)) (n + 1))) := by
  have hb := World.alloc_heap_new w (.map (sgArr n) n)
  have hk : MapKept.IsKey (.int .u8) (.int .u8 s) := by simp [MapKept.IsKey]
  simp only [Instr.mapUpdate, Sem.run_bind, run_underlying Tryz.underlying140, Result.andThen, MapKept.run_getObj_map hb, MapKept.run_checkKey Tryz.underlying5 hk, MapKept.run_findKey Tryz.underlying5 h1, MapKept.run_setObj_map _ hb]
  rw [← h2]
  exact congrArg (Result.ok ()) (alloc_set w (.map (sgArr n) n) _)

set_option maxRecDepth 100000 in
theorem signs_any (w : World) : Calls Tryz.prog 107 #[] w fun e w' => e = .returned (.map (some w.heap.size)) ∧ w' = w.alloc (.map (sgArr 3) 3) := by
  have hm : ∀ w : World, (Instr.makeMap 140 none).run Tryz.prog w = .ok (.map (some w.heap.size)) (w.alloc (.map (sgArr 0) 0)) := fun w => by
    rw [run_makeMap]
    rfl
  have i1 := sg_put 0 1 ⟨#[63]⟩ (by kernel_rfl) (by kernel_rfl)
  have i2 := sg_put 1 2 ⟨#[61]⟩ (by kernel_rfl) (by kernel_rfl)
  have i3 := sg_put 2 3 ⟨#[33]⟩ (by kernel_rfl) (by kernel_rfl)
  go_enter Tryz.func107, Tryz.ntmps107
  go_wp2
  go_ret
  exact ⟨rfl, rfl⟩

def hasTx (m : Mv) : Bool := if m.id < 0 ∨ m.arg < 0 then false else if m.kind = 1 then decide (m.n = 0) else if m.kind = 3 ∧ m.n = -1 then true else decide (0 ≤ m.n)
set_option maxRecDepth 100000 in
theorem hasText_any (m : Mv) (w : World) : Calls Tryz.prog 108 #[mvV m] w fun e w' => e = .returned (.bool (hasTx m)) ∧ Below w.heap.size w w' := by
  have HB := Lib.hid ((Below.refl _ w).alloc (Nat.le_refl _) (.cells #[.int .i64 m.id, .int .i64 m.arg, .int .u8 m.kind, .int .i64 m.n] 40))
  unfold mvV
  obtain ⟨R, hR⟩ : ∃ R, hasTx m = R := ⟨_, rfl⟩
  have HR := Lib.hid hR
  rw [hR]
  clear hR
  obtain ⟨id, arg, kind, n⟩ := m
  dsimp only at HR HB ⊢
  go_enter Tryz.func108, Tryz.ntmps108
  go_wp2
  all_goals go_ret
  all_goals refine ⟨?_, (Below.refl _ w).alloc (Nat.le_refl _) _⟩
  all_goals rw [← HR.out]
  all_goals (unfold hasTx; simp only []; congr 2; (repeat' split) <;> (try simp_all) <;> (try omega) <;> (try (rw [Bool.eq_iff_iff]; simp)))

def signOf (k : Int) : Option ByteArray := if k = 1 then some ⟨#[63]⟩ else if k = 2 then some ⟨#[61]⟩ else if k = 3 then some ⟨#[33]⟩ else none
theorem sg_look {w : World} {b : Nat} (h : SgMap w b) (k : Int) :
    (Instr.lookup 140 (.map (some b)) (.int .u8 k) true).run Tryz.prog w = .ok (.tuple #[.string ((signOf k).getD ⟨#[]⟩), .bool (signOf k).isSome]) w := by
  have hk : MapKept.IsKey (.int .u8) (.int .u8 k) := by simp [MapKept.IsKey]
  have hz : (zeroValue 9).run Tryz.prog w = .ok (.string ⟨#[]⟩) w := by kernel_rfl
  by_cases h1 : k = 1
  · subst h1
    have e1 : Instr.findNow (.int .u8) (.int .u8 1) (sgArr 3).toList 0 = some (some (0, .string ⟨#[63]⟩)) := by kernel_rfl
    simp only [Instr.lookup, Sem.run_bind, run_underlying Tryz.underlying140, Result.andThen, MapKept.run_getObj_map h, Sem.run_pure, MapKept.run_checkKey Tryz.underlying5 hk, MapKept.run_findKey Tryz.underlying5 e1]
    simp [signOf]
  · by_cases h2 : k = 2
    · subst h2
      have e1 : Instr.findNow (.int .u8) (.int .u8 2) (sgArr 3).toList 0 = some (some (1, .string ⟨#[61]⟩)) := by kernel_rfl
      simp only [Instr.lookup, Sem.run_bind, run_underlying Tryz.underlying140, Result.andThen, MapKept.run_getObj_map h, Sem.run_pure, MapKept.run_checkKey Tryz.underlying5 hk, MapKept.run_findKey Tryz.underlying5 e1]
      simp [signOf]
    · by_cases h3 : k = 3
      · subst h3
        have e1 : Instr.findNow (.int .u8) (.int .u8 3) (sgArr 3).toList 0 = some (some (2, .string ⟨#[33]⟩)) := by kernel_rfl
        simp only [Instr.lookup, Sem.run_bind, run_underlying Tryz.underlying140, Result.andThen, MapKept.run_getObj_map h, Sem.run_pure, MapKept.run_checkKey Tryz.underlying5 hk, MapKept.run_findKey Tryz.underlying5 e1]
        simp [signOf]
      · have b1 : ((k : Int) == 1) = false := by simpa using h1
        have b2 : ((k : Int) == 2) = false := by simpa using h2
        have b3 : ((k : Int) == 3) = false := by simpa using h3
        have e1 : Instr.findNow (.int .u8) (.int .u8 k) (sgArr 3).toList 0 = some none := by
          simp [sgArr, Instr.findNow, Instr.sameNow, b1, b2, b3]
        simp only [Instr.lookup, Sem.run_bind, run_underlying Tryz.underlying140, Result.andThen, MapKept.run_getObj_map h, Sem.run_pure, MapKept.run_checkKey Tryz.underlying5 hk, MapKept.run_findKey Tryz.underlying5 e1, hz]
        simp [signOf, h1, h2, h3]

/-- Itoa at a number, from a world on. -/
def ItoaAt (tx : Int → ByteArray) (w : World) (n : Int) : Prop := ∀ W, Below w.heap.size w W → Calls Tryz.prog 169 #[.int .i64 n] W fun e W' => e = .returned (.string (tx n)) ∧ Below W.heap.size W W'
def valTx (tx : Int → ByteArray) (m : Mv) : ByteArray := if m.kind = 1 then ⟨#[]⟩ else if m.n = -1 then ⟨#[42]⟩ else tx m.n
set_option maxRecDepth 100000 in
theorem valueText_any (tx : Int → ByteArray) (m : Mv) (w : World) (hi : ItoaAt tx w m.n) : Calls Tryz.prog 110 #[mvV m] w fun e w' => e = .returned (.string (valTx tx m)) ∧ Below w.heap.size w w' := by
  have HB := Lib.hid ((Below.refl _ w).alloc (Nat.le_refl _) (.cells #[.int .i64 m.id, .int .i64 m.arg, .int .u8 m.kind, .int .i64 m.n] 40))
  have CI := Lib.hid (hi _ HB.out)
  unfold mvV
  obtain ⟨id, arg, kind, n⟩ := m
  dsimp only at HB CI ⊢
  clear hi
  unfold valTx
  dsimp only
  by_cases h1 : kind = 1
  · subst h1
    rw [if_pos rfl]
    go_enter Tryz.func110, Tryz.ntmps110
    go_wp2
    go_ret
    exact ⟨rfl, HB.out⟩
  · rw [if_neg h1]
    have b1 : ((kind : Int) == 1) = false := by simpa using h1
    by_cases h2 : n = -1
    · subst h2
      rw [if_pos rfl]
      go_enter Tryz.func110, Tryz.ntmps110
      go_wp2
      go_ret
      exact ⟨rfl, HB.out⟩
    · rw [if_neg h2]
      have b2 : ((n : Int) == -1) = false := by simpa using h2
      go_enter Tryz.func110, Tryz.ntmps110
      go_wp2_with (go_at_call 169; refine CI.out.mono ?_; rintro e w2 ⟨rfl, hb2⟩)
      go_ret
      exact ⟨rfl, HB.out.trans (hb2.mono HB.out.size)⟩

def placeTx (tx : Int → ByteArray) (m : Mv) : ByteArray := if m.arg = 0 then tx m.id else (tx m.id ++ ⟨#[46]⟩) ++ tx m.arg
set_option maxRecDepth 100000 in
theorem placeText_any (tx : Int → ByteArray) (m : Mv) (w : World) (hi : ItoaAt tx w m.id) (hj : ItoaAt tx w m.arg) (h1 : (tx m.id).size ≤ 1000) (h2 : (tx m.arg).size ≤ 1000) : Calls Tryz.prog 109 #[mvV m] w fun e w' => e = .returned (.string (placeTx tx m)) ∧ Below w.heap.size w w' := by
  have HB := Lib.hid ((Below.refl _ w).alloc (Nat.le_refl _) (.cells #[.int .i64 m.id, .int .i64 m.arg, .int .u8 m.kind, .int .i64 m.n] 40))
  have HX := Lib.hid (BoxM.new w m)
  unfold mvV
  obtain ⟨id, arg, kind, n⟩ := m
  unfold placeTx
  unfold ItoaAt at hi hj
  dsimp only at HB hi hj h1 h2 HX ⊢
  obtain ⟨T1, e1⟩ : ∃ T, tx id = T := ⟨_, rfl⟩
  obtain ⟨T2, e2⟩ : ∃ T, tx arg = T := ⟨_, rfl⟩
  rw [e1] at hi h1 ⊢
  rw [e2] at hj h2 ⊢
  have CI := Lib.hid hi
  have CJ := Lib.hid hj
  clear hi hj e1 e2
  by_cases h0 : arg = 0
  · subst h0
    rw [if_pos rfl]
    go_enter Tryz.func109, Tryz.ntmps109
    go_wp2_with (go_at_call 169; refine (CI.out _ HB.out).mono ?_; rintro e w2 ⟨rfl, hb2⟩)
    go_ret
    exact ⟨rfl, HB.out.trans (hb2.mono HB.out.size)⟩
  · rw [if_neg h0]
    have b1 : ((arg : Int) == 0) = false := by simpa using h0
    have a1 : ∀ W, (Op.stringOp .add T1 ⟨#[46]⟩).run Tryz.prog W = .ok (.string (T1 ++ ⟨#[46]⟩)) W := fun W => run_string_add_sum W T1 _ (by have : (⟨#[46]⟩ : ByteArray).size = 1 := rfl; omega)
    have a2 : ∀ W, (Op.stringOp .add (T1 ++ ⟨#[46]⟩) T2).run Tryz.prog W = .ok (.string ((T1 ++ ⟨#[46]⟩) ++ T2)) W := fun W => run_string_add_sum W _ _ (by rw [ByteArray.size_append]; have : (⟨#[46]⟩ : ByteArray).size = 1 := rfl; omega)
    obtain ⟨T3, e3⟩ : ∃ T3, T1 ++ (⟨#[46]⟩ : ByteArray) = T3 := ⟨_, rfl⟩
    rw [e3] at a1 a2 ⊢
    obtain ⟨T4, e4⟩ : ∃ T4, T3 ++ T2 = T4 := ⟨_, rfl⟩
    rw [e4] at a2 ⊢
    have a3 : ∀ W, (Go.binOp .add 9 (.string T1) (.string ⟨#[46]⟩)).run Tryz.prog W = .ok (.string T3) W := fun W => by simp [Go.binOp, a1]
    have a4 : ∀ W, (Go.binOp .add 9 (.string T3) (.string T2)).run Tryz.prog W = .ok (.string T4) W := fun W => by simp [Go.binOp, a2]
    clear e3 e4 h1 h2
    obtain ⟨w1, hw1⟩ : ∃ w1, w.alloc (.cells #[.int .i64 id, .int .i64 arg, .int .u8 kind, .int .i64 n] 40) = w1 := ⟨_, rfl⟩
    rw [hw1] at HB HX
    have x0 := HX.out
    have c0 := x0.c0
    have c1 := x0.c1
    dsimp only at c0 c1
    clear x0
    go_enter Tryz.func109, Tryz.ntmps109
    go_wp2
    go_region_held3 (fun W => W.cell? ⟨w.heap.size, 0, none⟩ = some (.int .i64 id) ∧ W.cell? ⟨w.heap.size, 1, none⟩ = some (.int .i64 arg))
      (first
        | go_keep
        | (go_split_ands
           refine ⟨?_, ?_⟩ <;> (repeat' (first
             | assumption
             | refine (hb3.cell (by have h1 := hb12.size; have h2 := HX.out.lt; simp; omega)).trans ?_
             | refine (hb12.cell (by have h2 := HX.out.lt; simp; omega)).trans ?_)))
        | (trace_state; fail))
      (first
      | (go_at_call 169; refine (CI.out _ (HB.out.trans (((Below.refl _ w1).drew).mono HB.out.size))).mono ?_; rintro e w2 ⟨rfl, hb2⟩; have hb12 : Below w1.heap.size w1 w2 := ((Below.refl _ w1).drew).trans hb2)
      | (go_at_call 169; refine (CJ.out _ (HB.out.trans (hb12.mono HB.out.size))).mono ?_; rintro e w3 ⟨rfl, hb3⟩))
    all_goals go_wp2
    all_goals go_ret
    all_goals (have h := HB.out.trans (hb12.mono HB.out.size); exact ⟨rfl, h.trans (hb3.mono h.size)⟩)
end Go.Proofs.YtklfojmflmablaaGreatDoor
