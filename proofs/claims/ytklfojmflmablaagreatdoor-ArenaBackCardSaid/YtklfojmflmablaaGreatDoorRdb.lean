/- The reference: Read; ArenaReads. -/
import Derived.Test.YtklfojmflmablaaGreatDoorRda
import Derived.Test.YtklfojmflmablaaGreatDoorLtw
import Derived.Test.YtklfojmflmablaaGreatDoorLt
import Derived.Test.YtklfojmflmablaaGreatDoorAw
/- The reference: Split, Begins. -/
namespace Go.Proofs.YtklfojmflmablaaGreatDoor
open Go Go.RowKit Go.Shelf
attribute [local go_sem ↓] append_shut

theorem app_str (W : World) (n : Nat) (v : Value) (l : List ByteArray) (x : ByteArray) (hv : W.ownsRow n 9 1 v l.length (l.map Value.string)) (hn : n ≤ W.heap.size) (hl : l.length ≤ 20000) :
    ∃ A c w', (appShut #[147, 147] 147 #[v, .slice (some ⟨W.heap.size, 0, none⟩) 1 1]).run Tryz.prog (W.alloc (.cells #[.string x] 9)) = .ok (.slice A (l.length + 1) c) w' ∧ w'.ownsRow n 9 1 (.slice A (l ++ [x]).length c) (l ++ [x]).length ((l ++ [x]).map Value.string) ∧ Below n W w' ∧ (∀ b, b < W.heap.size → some b ≠ v.ownBlock → w'.heap[b]? = W.heap[b]?) ∧ W.heap.size ≤ w'.heap.size := by
  obtain ⟨i0, hi, hz0, hz1, hz2⟩ := info_parts info9
  obtain ⟨v', w', hrun, hown, hgrow, _, _⟩ := run_append_own_at (P := Tryz.prog) (W.alloc (.cells #[.string x] 9)) n 147 147 9 i0 _ 1 16 Tryz.underlying147 hi hz0 hz1 hz2 rfl (by decide) v l.length (l.map Value.string) (World.ownsRow.alloc hv _) ⟨W.heap.size, 0, none⟩ 1 1 [.string x] rfl (cells_newE _ _ _) (by simp [Value.oneCell']) (by unfold maxLen; omega) (by omega) (by simp; omega)
  have ho : w'.ownsRow n 9 1 v' (l ++ [x]).length ((l ++ [x]).map Value.string) := by rw [List.length_append, List.map_append]; exact hown
  obtain ⟨A, c, rfl⟩ := row_slice ho
  rw [show (l ++ [x]).length = l.length + 1 by simp] at hrun
  refine ⟨A, c, w', hrun, ho, (((Below.refl n W).alloc hn _).grown hgrow (by simp; omega) (fun k e => (rowAt hv e).1)), fun b hb hne => ?_, by have := hgrow.size; simp at this; omega⟩
  rw [hgrow.block b (by simp; omega) hne]
  exact Below.heap_alloc _ _ _ hb

/-- No piece ends between f and i. -/
def NoSep (s sep : ByteArray) (f i : Nat) : Prop := f ≤ i ∧ Lib.NoOcc (s.data.toList.drop f) sep.data.toList (i - f)
theorem NoSep.start (s sep : ByteArray) (f : Nat) : NoSep s sep f f := ⟨Nat.le_refl _, by rw [Nat.sub_self]; exact Lib.NoOcc.zero _ _⟩
theorem drop_data (s : ByteArray) (f : Nat) : (s.extract f s.size).data.toList = s.data.toList.drop f := by
  rw [Lib.extract_eq]
  have : (s.data.toList.drop f).take (s.size - f) = s.data.toList.drop f := List.take_of_length_le (by rw [List.length_drop, ← Lib.size_eq]; exact Nat.le_refl _)
  simpa using this
theorem occ_iff (s sep : ByteArray) (f i : Nat) (hf : f ≤ i) (hi : i + sep.size ≤ s.size) : Lib.occAt (s.data.toList.drop f) sep.data.toList (i - f) = ((s.extract i (i + sep.size)).toList == sep.toList) := by
  rw [Lib.extract_toList, Lib.toList_data]
  have h1 := Lib.hasPrefix_of_take (s.data.toList.drop i) sep.data.toList
  unfold Lib.hasPrefix at h1
  unfold Lib.occAt
  rw [List.drop_drop, show f + (i - f) = i by omega, ← h1]
  have hl : sep.data.toList.length ≤ (s.data.toList.drop i).length := by
    rw [List.length_drop, ← Lib.size_eq, ← Lib.size_eq]
    omega
  rw [decide_eq_true hl, Bool.true_and, ← Lib.size_eq, show i + sep.size - i = sep.size by omega]

theorem split_hit {s sep : ByteArray} {k f i : Nat} (hn : NoSep s sep f i) (hi : i + sep.size ≤ s.size) (h : ((s.extract i (i + sep.size)).toList == sep.toList) = true) :
    Lib.splitB sep 0 (k + 1) (s.extract f s.size) = s.extract f i :: Lib.splitB sep 0 k (s.extract (i + sep.size) s.size) := by
  obtain ⟨hfi, hno⟩ := hn
  have hidx : Lib.indexB (s.extract f s.size) sep = ((i - f : Nat) : Int) := by
    show Lib.index _ _ = _
    rw [drop_data]
    exact Lib.index_hit hno (by rw [List.length_drop, ← Lib.size_eq]; omega) (by rw [occ_iff s sep f i hfi hi]; exact h)
  rw [Lib.splitB_hit _ _ _ _ _ hidx, Nat.add_zero, ByteArray.extract_extract, ByteArray.extract_extract]
  congr 2
  · omega
  · congr 1
    · omega
    · simp
      omega
theorem split_end {s sep : ByteArray} {k f i : Nat} (h1 : 1 ≤ sep.size) (hn : NoSep s sep f i) (hi : ¬ i + sep.size ≤ s.size) : Lib.splitB sep 0 k (s.extract f s.size) = [s.extract f s.size] := by
  obtain ⟨hfi, hno⟩ := hn
  apply Lib.splitB_miss
  show Lib.index _ _ = _
  rw [drop_data]
  refine Lib.index_past (fun e => ?_) hno ?_
  · have := congrArg List.length e
    rw [← Lib.size_eq, List.length_nil] at this
    omega
  · rw [List.length_drop, ← Lib.size_eq, ← Lib.size_eq]
    omega
theorem NoSep.more {s sep : ByteArray} {f i : Nat} (hn : NoSep s sep f i) (hi : i + sep.size ≤ s.size) (h : ((s.extract i (i + sep.size)).toList == sep.toList) = false) : NoSep s sep f (i + 1) := by
  obtain ⟨hfi, hno⟩ := hn
  refine ⟨by omega, ?_⟩
  rw [show i + 1 - f = (i - f) + 1 by omega]
  exact hno.succ (by rw [occ_iff s sep f i hfi hi]; exact h)

set_option maxRecDepth 100000 in
set_option maxHeartbeats 1000000 in
theorem split_any (s sep : ByteArray) (w : World) (hs : s.size ≤ 1000) (h1 : 1 ≤ sep.size) (h2 : sep.size ≤ 10) :
    Calls Tryz.prog 115 #[.string s, .string sep] w fun e w' => ∃ A c, e = .returned (.slice A (pieces s sep).length c) ∧ w'.ownsRow w.heap.size 9 1 (.slice A (pieces s sep).length c) (pieces s sep).length ((pieces s sep).map Value.string) ∧ Below w.heap.size w w' := by
  have hlen := pieces_len s sep
  have HXS := Lib.hid (show pieces s sep = Lib.splitB sep 0 s.size s from rfl)
  obtain ⟨xs, hxs⟩ : ∃ xs, pieces s sep = xs := ⟨_, rfl⟩
  rw [hxs] at hlen HXS ⊢
  clear hxs
  go_enter Tryz.func115, Tryz.ntmps115
  go_wp2
  go_loopw [5, 6, 7] (fun v f i wr => ∃ (pre : List ByteArray) (k fn inn : Nat) (A : Option Addr) (c : Nat), v = .slice A pre.length c ∧ f = .int .i64 fn ∧ i = .int .i64 inn ∧ Hid (xs = pre ++ Lib.splitB sep 0 k (s.extract fn s.size)) ∧ s.size ≤ fn + k ∧ fn ≤ inn ∧ inn ≤ s.size ∧ Hid (NoSep s sep fn inn) ∧ Hid (wr.ownsRow w.heap.size 9 1 (.slice A pre.length c) pre.length (pre.map Value.string)) ∧ Hid (Below w.heap.size w wr)) (fun _ _ i _ => s.size + 1 - (intOf i).toNat)
  case atStart => exact ⟨[], s.size, 0, 0, none, 0, rfl, rfl, rfl, Lib.hid (by rw [HXS.out]; simp), by omega, by omega, by omega, Lib.hid (NoSep.start _ _ _), Lib.hid (World.ownsRow_nil _ _ _ _), Lib.hid (Below.refl _ _)⟩
  case round =>
    obtain ⟨pre, k, fn, inn, A, c, rfl, rfl, rfl, hx, hk, hfi, his, hno, hrow, hb⟩ := hrel
    have HPL : Hid (pre.length ≤ 1001) := Lib.hid (by have := congrArg List.length hx.out; rw [List.length_append] at this; omega)
    by_cases hle : inn + sep.size ≤ s.size
    · have hle' : (inn : Int) + sep.size ≤ s.size := by omega
      cases hm : ((s.extract inn (inn + sep.size)).toList == sep.toList) with
      | true =>
        obtain ⟨k, rfl⟩ : ∃ k', k = k' + 1 := ⟨k - 1, by omega⟩
        have hx2 := hx.out
        rw [split_hit hno.out hle hm] at hx2
        obtain ⟨Q, hQ⟩ : ∃ Q, s.extract fn inn = Q := ⟨_, rfl⟩
        rw [hQ] at hx2
        have HX := Lib.hid hx2
        clear hx hx2
        obtain ⟨A', c', w', hrun, hown, hbw, _⟩ := app_str wr w.heap.size _ pre Q hrow.out hb.out.size (by have := HPL.out; omega)
        have HOWN := Lib.hid hown
        have HBW := Lib.hid hbw
        clear hown hbw
        go_wp2
        go_roundw
        case rel => exact ⟨pre ++ [Q], k, inn + sep.size, inn + sep.size, A', c', by simp, by simp, by simp, Lib.hid (by rw [HX.out]; simp), by omega, Nat.le_refl _, hle, Lib.hid (NoSep.start _ _ _), HOWN, Lib.hid (hb.out.trans (HBW.out.mono (Nat.le_refl _)))⟩
        case measure => simp [intOf]; omega
      | false =>
        go_wp2
        go_roundw
        case rel => exact ⟨pre, k, fn, inn + 1, A, c, rfl, rfl, by simp, hx, hk, by omega, by omega, Lib.hid (hno.out.more hle hm), hrow, hb⟩
        case measure => simp [intOf]; omega
    · have hx2 := hx.out
      rw [split_end h1 hno.out hle] at hx2
      obtain ⟨Q, hQ⟩ : ∃ Q, s.extract fn s.size = Q := ⟨_, rfl⟩
      rw [hQ] at hx2
      obtain ⟨A', c', w', hrun, hown, hbw, _⟩ := app_str wr w.heap.size _ pre Q hrow.out hb.out.size (by have := HPL.out; omega)
      rw [← hx2] at hown
      have HOWN := Lib.hid hown
      have HBW := Lib.hid hbw
      clear hown hbw
      have hle' : ¬ (inn : Int) + sep.size ≤ s.size := by omega
      go_wp2
      go_ret
      refine ⟨A', c', rfl, ?_, hb.out.trans HBW.out⟩
      have := HOWN.out
      rw [hx2] at this
      simpa using this

set_option maxRecDepth 100000 in
/-- Begins. -/
theorem begins_any (s p : ByteArray) (w : World) (hs : s.size ≤ 1000) (hp : p.size ≤ 1000) : Calls Tryz.prog 177 #[.string s, .string p] w fun e w' => e = .returned (.bool (Lib.hasPrefix s.data.toList p.data.toList)) ∧ w = w' := by
  rw [← Lib.hasPrefix_of_take, ← Lib.size_eq, ← Lib.size_eq]
  go_enter Tryz.func177, Tryz.ntmps177
  go_wp2
  · rename_i h
    go_ret
    refine ⟨?_, rfl⟩
    show Ending.returned (Value.bool ((s.extract 0 p.size).toList == p.toList)) = _
    rw [Lib.extract_toList, Lib.toList_data]
    simp [h]
  · rename_i h
    go_ret
    refine ⟨?_, rfl⟩
    show Ending.returned (Value.bool false) = _
    simp [h]

def cellP : ByteArray := ⟨#[99, 101, 108, 108, 32]⟩
def intP : ByteArray := ⟨#[105, 110, 116, 32]⟩
def begB (s p : ByteArray) : Bool := Lib.hasPrefix s.data.toList p.data.toList
theorem begB_size {s p : ByteArray} (h : begB s p = true) : p.size ≤ s.size := by
  unfold begB Lib.hasPrefix at h
  have := (List.isPrefixOf_iff_prefix.1 h).length_le
  rw [← Lib.size_eq, ← Lib.size_eq] at this
  exact this
/-- What a text looks like to the reference as a base type. -/
def rfBase (s : ByteArray) : Bs :=
  if begB s cellP then ⟨true, (digs 0 0 (s.extract 5 s.size).data.toList).1⟩ else if begB s intP then ⟨false, (digs 0 0 (s.extract 4 s.size).data.toList).1⟩ else ⟨false, 0⟩
theorem results_base116 {tmps : Array Value} {W : World} {B : Nat} {x : Bs} (h : BoxB W B x) (t2 : tmps[2]?.getD undef = .pointer (some ⟨B, 0, none⟩)) :
    (results Tryz.f116 tmps).run Tryz.prog W = .ok (bsV x) W := by
  have c0 := cell_of_row W B 0 _ 24 (0, 0) h
  have c1 := cell_of_row W B 1 _ 24 (0, 0) h
  simp [results, Tryz.results116, t2, go_sem, loadVar, c0, c1, bsV]

set_option maxRecDepth 100000 in
set_option maxHeartbeats 1000000 in
theorem refReadBase_any (s : ByteArray) (w : World) (hs : s.size ≤ 1000) : Calls Tryz.prog 116 #[.string s] w fun e w' => e = .returned (bsV (rfBase s)) ∧ Below w.heap.size w w' := by
  have B1 : Hid (∀ W, Calls Tryz.prog 177 #[.string s, .string ⟨#[99, 101, 108, 108, 32]⟩] W fun e w' => e = .returned (.bool (begB s cellP)) ∧ W = w') := Lib.hid fun W => begins_any s cellP W hs (by decide)
  have B2 : Hid (∀ W, Calls Tryz.prog 177 #[.string s, .string ⟨#[105, 110, 116, 32]⟩] W fun e w' => e = .returned (.bool (begB s intP)) ∧ W = w') := Lib.hid fun W => begins_any s intP W hs (by decide)
  cases h1 : begB s cellP with
  | true =>
    have hz := begB_size h1
    have hz5 : 5 ≤ s.size := hz
    have hR : rfBase s = ⟨true, (digs 0 0 (s.extract 5 s.size).data.toList).1⟩ := by unfold rfBase; rw [if_pos h1]
    rw [hR]
    rw [h1] at B1
    obtain ⟨S, hS⟩ : ∃ S, s.extract 5 s.size = S := ⟨_, rfl⟩
    have hSz : S.size ≤ 1000 := by rw [← hS]; simp; omega
    have D1 : Hid (∀ W, Calls Tryz.prog 113 #[.string S] W fun e w' => e = .returned (.tuple #[.int .i64 (digs 0 0 S.data.toList).1, .int .i64 ((digs 0 0 S.data.toList).2 : Int)]) ∧ W = w') := Lib.hid fun W => digits_any S W hSz
    rw [hS]
    obtain ⟨n, hn⟩ : ∃ n, (digs 0 0 S.data.toList).1 = n := ⟨_, rfl⟩
    rw [hn] at D1 ⊢
    clear hn hR h1 hz
    go_enter Tryz.func116, Tryz.ntmps116
    go_wp2_with (first
      | (go_at_call 177; (with_reducible refine (B1.out _).mono ?_); rintro e w2 ⟨rfl, hw⟩; rw [← hw]; clear hw)
      | (go_at_call 113; (with_reducible refine (D1.out _).mono ?_); rintro e w2 ⟨rfl, hw⟩; rw [← hw]; clear hw))
    refine bodyPost_ret (results_base116 (B := w.heap.size) (x := ⟨true, n⟩) ((Below.heap_alloc _ _ _ (by simp)).trans (World.alloc_heap_new w _)) (by simp)) rfl ?_
    exact ⟨rfl, ((Below.refl _ w).alloc (Nat.le_refl _) _).alloc (by simp) _⟩
  | false =>
    rw [h1] at B1
    cases h2 : begB s intP with
    | true =>
      have hz := begB_size h2
      have hz4 : 4 ≤ s.size := hz
      have hR : rfBase s = ⟨false, (digs 0 0 (s.extract 4 s.size).data.toList).1⟩ := by unfold rfBase; rw [if_neg (by rw [h1]; simp), if_pos h2]
      rw [hR]
      rw [h2] at B2
      obtain ⟨S, hS⟩ : ∃ S, s.extract 4 s.size = S := ⟨_, rfl⟩
      have hSz : S.size ≤ 1000 := by rw [← hS]; simp; omega
      have D1 : Hid (∀ W, Calls Tryz.prog 113 #[.string S] W fun e w' => e = .returned (.tuple #[.int .i64 (digs 0 0 S.data.toList).1, .int .i64 ((digs 0 0 S.data.toList).2 : Int)]) ∧ W = w') := Lib.hid fun W => digits_any S W hSz
      rw [hS]
      obtain ⟨n, hn⟩ : ∃ n, (digs 0 0 S.data.toList).1 = n := ⟨_, rfl⟩
      rw [hn] at D1 ⊢
      clear hn hR h1 h2 hz
      go_enter Tryz.func116, Tryz.ntmps116
      go_wp2_with (first
        | (go_at_call 177; (with_reducible refine (B1.out _).mono ?_); rintro e w2 ⟨rfl, hw⟩; rw [← hw]; clear hw)
        | (go_at_call 177; (with_reducible refine (B2.out _).mono ?_); rintro e w2 ⟨rfl, hw⟩; rw [← hw]; clear hw)
        | (go_at_call 113; (with_reducible refine (D1.out _).mono ?_); rintro e w2 ⟨rfl, hw⟩; rw [← hw]; clear hw))
      refine bodyPost_ret (results_base116 (B := w.heap.size) (x := ⟨false, n⟩) ((Below.heap_alloc _ _ _ (by simp)).trans (World.alloc_heap_new w _)) (by simp)) rfl ?_
      exact ⟨rfl, ((Below.refl _ w).alloc (Nat.le_refl _) _).alloc (by simp) _⟩
    | false =>
      have hR : rfBase s = ⟨false, 0⟩ := by unfold rfBase; rw [if_neg (by rw [h1]; simp), if_neg (by rw [h2]; simp)]
      rw [hR]
      rw [h2] at B2
      clear hR h1 h2
      go_enter Tryz.func116, Tryz.ntmps116
      go_wp2_with (first
        | (go_at_call 177; (with_reducible refine (B1.out _).mono ?_); rintro e w2 ⟨rfl, hw⟩; rw [← hw]; clear hw)
        | (go_at_call 177; (with_reducible refine (B2.out _).mono ?_); rintro e w2 ⟨rfl, hw⟩; rw [← hw]; clear hw))
      refine bodyPost_ret (results_base116 (B := w.heap.size) (x := ⟨false, 0⟩) ((Below.heap_alloc _ _ _ (by simp)).trans (World.alloc_heap_new w _)) (by simp)) rfl ?_
      exact ⟨rfl, ((Below.refl _ w).alloc (Nat.le_refl _) _).alloc (by simp) _⟩
end Go.Proofs.YtklfojmflmablaaGreatDoor
/- The reference: types read. -/
namespace Go.Proofs.YtklfojmflmablaaGreatDoor
open Go Go.RowKit Go.Shelf
attribute [local go_sem ↓] append_shut

def hd (l : List ByteArray) : ByteArray := l.headD ByteArray.empty
def lst (l : List ByteArray) : ByteArray := l.getLastD ByteArray.empty
/-- What a text looks like to the reference as a type. -/
def rfType (s : ByteArray) : Ty :=
  ⟨if begB s ⟨#[40]⟩ then (pieces ((hd (pieces s arrowB)).extract 1 (hd (pieces s arrowB)).size) commaB).map rfBase else [], rfBase (lst (pieces s arrowB))⟩
theorem splitB_ne (sep : ByteArray) : ∀ (k : Nat) (s : ByteArray), Lib.splitB sep 0 k s ≠ []
  | 0, s => by rw [Lib.splitB_zero]; simp
  | k + 1, s => by
    unfold Lib.splitB
    split <;> simp
theorem pieces_ne (s sep : ByteArray) : pieces s sep ≠ [] := splitB_ne _ _ _
theorem hd_mem {l : List ByteArray} (h : l ≠ []) : hd l ∈ l ∧ l[0]? = some (hd l) := by
  cases l with
  | nil => exact absurd rfl h
  | cons x r => exact ⟨by simp [hd], rfl⟩
theorem lst_mem {l : List ByteArray} {m : Nat} (h : l.length = m + 1) : lst l ∈ l ∧ l[m]? = some (lst l) := by
  have e : l[m]? = some (lst l) := by
    unfold lst
    rw [List.getLastD_eq_getLast?, List.getLast?_eq_getElem?, h, Nat.add_sub_cancel]
    cases h' : l[m]? with
    | none => rw [List.getElem?_eq_none_iff] at h'; omega
    | some x => rfl
  exact ⟨List.mem_of_getElem? e, e⟩

/-- An element more of a type's params, behind a call. -/
theorem par_arm {W W6 : World} {n0 B : Nat} {v : Value} {ps : List Bs} {x res : Bs} (hB : B < n0) (hn : n0 ≤ W.heap.size) (hl : ps.length ≤ 2000)
    (h1 : W.heap[B]? = some (.cells #[v, .bool res.cell, .int .i64 res.n] 64 (0, 0))) (h2 : W.ownsRow n0 24 2 v ps.length (ps.flatMap bsCells)) (h6 : Below W.heap.size W W6) :
    W6.cell? ⟨B, 0, none⟩ = some v ∧ (W6.alloc (.cells #[.bool x.cell, .int .i64 x.n] 24)).cell? ⟨B, 0, none⟩ = some v ∧
    ∃ g cap w8, (appShut #[62, 62] 62 #[v, .slice (some ⟨W6.heap.size, 0, none⟩) 1 1]).run Tryz.prog (W6.alloc (.cells #[.bool x.cell, .int .i64 x.n] 24)) = .ok (.slice (some ⟨g, 0, none⟩) (ps.length + 1) cap) w8 ∧
      w8.cell? ⟨B, 0, none⟩ = some v ∧ w8.frozen? ⟨B, 0, none⟩ = false ∧ Hid ((w8.setCell ⟨B, 0, none⟩ (.slice (some ⟨g, 0, none⟩) (ps.length + 1) cap)).heap[B]? = some (.cells #[.slice (some ⟨g, 0, none⟩) (ps.length + 1) cap, .bool res.cell, .int .i64 res.n] 64 (0, 0))) ∧
      Hid ((w8.setCell ⟨B, 0, none⟩ (.slice (some ⟨g, 0, none⟩) (ps.length + 1) cap)).ownsRow n0 24 2 (.slice (some ⟨g, 0, none⟩) (ps.length + 1) cap) (ps.length + 1) ((ps ++ [x]).flatMap bsCells)) ∧
      Hid (Only (fun b => b = B ∨ n0 ≤ b) W (w8.setCell ⟨B, 0, none⟩ (.slice (some ⟨g, 0, none⟩) (ps.length + 1) cap))) := by
  obtain ⟨i0, hi0, hz0, hz1, hz2⟩ := info_parts info24
  have hBW : B < W.heap.size := (Array.getElem?_eq_some_iff.1 h1).1
  have z6 : W6.heap[B]? = some (.cells #[v, .bool res.cell, .int .i64 res.n] 64 (0, 0)) := (h6.block _ hBW).trans h1
  have hs6 := h6.size
  have z7 : (W6.alloc (.cells #[.bool x.cell, .int .i64 x.n] 24)).heap[B]? = some (.cells #[v, .bool res.cell, .int .i64 res.n] 64 (0, 0)) := (Below.heap_alloc _ _ _ (by omega)).trans z6
  obtain ⟨v', w8, hrun, hown', hgrow, _, hat⟩ := run_append_own_at (P := Tryz.prog) (W6.alloc (.cells #[.bool x.cell, .int .i64 x.n] 24)) n0 62 62 24 i0 _ 2 16 Tryz.underlying62 hi0 hz0 hz1 hz2 rfl (by decide) v ps.length (ps.flatMap bsCells)
    ((row_below h2 h6).alloc _) ⟨W6.heap.size, 0, none⟩ 1 1 (bsCells x) rfl (cells_newE _ _ _) (by simp [bsCells, Value.oneCell']) (by unfold maxLen; omega) (by omega) (by simp; omega)
  obtain ⟨g, cap, rfl⟩ := ownsRow_succ hown'
  have z8 : w8.heap[B]? = some (.cells #[v, .bool res.cell, .int .i64 res.n] 64 (0, 0)) := (hgrow.block _ (by simp; omega) (fun e => by have := (rowAt h2 e.symm).1; omega)).trans z7
  have o9 : Only (fun b => b = B) w8 (w8.setCell ⟨B, 0, none⟩ (.slice (some ⟨g, 0, none⟩) (ps.length + 1) cap)) := (Only.refl (fun k => k = B) w8).setCell _ _ fun _ => rfl
  refine ⟨cell_of_row W6 _ 0 _ 64 (0, 0) z6, cell_of_row _ _ 0 _ 64 (0, 0) z7, g, cap, w8, hrun, cell_of_row w8 _ 0 _ 64 (0, 0) z8, by simp [World.frozen?, z8], Lib.hid (heap_setCell_same _ B 0 _ 64 _ z8), Lib.hid ?_, Lib.hid ?_⟩
  · rw [List.flatMap_append, List.flatMap_cons, List.flatMap_nil, List.append_nil]
    exact row_only2 hown' o9 (fun b hb h => by omega)
  · exact ((((Only.of_below (S := fun b => b = B ∨ n0 ≤ b) h6).alloc _).grown hgrow (fun k e _ => .inr (rowAt h2 e).1)).trans o9 (fun _ _ h => .inl h))

theorem results_type117 {tmps : Array Value} {W : World} {B : Nat} {v : Value} {x : Bs} (h : W.heap[B]? = some (.cells #[v, .bool x.cell, .int .i64 x.n] 64 (0, 0))) (t2 : tmps[2]?.getD undef = .pointer (some ⟨B, 0, none⟩)) :
    (results Tryz.f117 tmps).run Tryz.prog W = .ok (tyV v x) W := by
  have c0 := cell_of_row W B 0 _ 64 (0, 0) h
  have c1 := cell_of_row W B 1 _ 64 (0, 0) h
  have c2 := cell_of_row W B 2 _ 64 (0, 0) h
  simp at c0 c1 c2
  simp [results, Tryz.results117, t2, go_sem, loadVar, c0, c1, c2, tyV]

/-- Split, its row's cells at hand. -/
theorem split_cells (s sep : ByteArray) (w : World) (hs : s.size ≤ 1000) (h1 : 1 ≤ sep.size) (h2 : sep.size ≤ 10) {m : Nat} (hm : (pieces s sep).length = m + 1) :
    Calls Tryz.prog 115 #[.string s, .string sep] w fun e w' => ∃ g c, e = .returned (.slice (some ⟨g, 0, none⟩) (m + 1) c) ∧ Below w.heap.size w w' ∧ w.heap.size ≤ g ∧ g < w'.heap.size ∧ Hid (∀ (j : Nat) x, (pieces s sep)[j]? = some x → w'.cell? ⟨g, j, none⟩ = some (.string x)) := by
  refine (split_any s sep w hs h1 h2).mono ?_
  rintro e w' ⟨A, c, rfl, hr, hb⟩
  obtain ⟨g, c', e, _, hg, hgl, hc⟩ := own_cells hr (by omega)
  rw [hm] at e ⊢
  cases e
  exact ⟨g, c, rfl, hb, hg, hgl, Lib.hid (fun j x hx => by have := hc j x hx; rwa [Nat.zero_add] at this)⟩

set_option maxRecDepth 100000 in
set_option maxHeartbeats 1000000 in
theorem refReadType_none (s : ByteArray) (w : World) (hs : s.size ≤ 900) (hb : begB s ⟨#[40]⟩ = false) :
    Calls Tryz.prog 117 #[.string s] w fun e w' => ∃ A n c, e = .returned (tyV (.slice A n c) (rfType s).result) ∧ w'.ownsRow w.heap.size 24 2 (.slice A n c) (rfType s).params.length ((rfType s).params.flatMap bsCells) ∧ Below w.heap.size w w' := by
  have hT : rfType s = ⟨[], rfBase (lst (pieces s arrowB))⟩ := by unfold rfType; rw [if_neg (by rw [hb]; simp)]
  rw [hT]
  obtain ⟨m, hm⟩ : ∃ m, (pieces s arrowB).length = m + 1 := ⟨(pieces s arrowB).length - 1, by have := List.length_pos_iff.2 (pieces_ne s arrowB); omega⟩
  have hml := pieces_len s arrowB
  obtain ⟨hmem, hlast⟩ := lst_mem hm
  have hz := pieces_size hmem
  have S1 : Hid (∀ W, Calls Tryz.prog 115 #[.string s, .string ⟨#[41, 32, 45, 62, 32]⟩] W fun e w' => ∃ g c, e = .returned (.slice (some ⟨g, 0, none⟩) (m + 1) c) ∧ Below W.heap.size W w' ∧ W.heap.size ≤ g ∧ g < w'.heap.size ∧ Hid (∀ (j : Nat) x, (pieces s arrowB)[j]? = some x → w'.cell? ⟨g, j, none⟩ = some (.string x))) := Lib.hid fun W => split_cells s arrowB W (by omega) (by decide) (by decide) hm
  have N1 : Hid (∀ W, Calls Tryz.prog 116 #[.string (lst (pieces s arrowB))] W fun e w' => e = .returned (bsV (rfBase (lst (pieces s arrowB)))) ∧ Below W.heap.size W w') := Lib.hid fun W => refReadBase_any _ W (by omega)
  have B1 : Hid (∀ W, Calls Tryz.prog 177 #[.string s, .string ⟨#[40]⟩] W fun e w' => e = .returned (.bool false) ∧ W = w') := Lib.hid fun W => by
    have := begins_any s ⟨#[40]⟩ W (by omega) (by decide)
    rw [show Lib.hasPrefix s.data.toList (⟨#[40]⟩ : ByteArray).data.toList = false from hb] at this
    exact this
  have HLAST := Lib.hid hlast
  obtain ⟨L, hL⟩ : ∃ L, lst (pieces s arrowB) = L := ⟨_, rfl⟩
  rw [hL] at N1 HLAST ⊢
  obtain ⟨b, hbb⟩ : ∃ b, rfBase L = b := ⟨_, rfl⟩
  rw [hbb] at N1 ⊢
  dsimp only
  unfold bsV at N1
  have hm1 : m ≤ 900 := by omega
  obtain ⟨w1, hw1⟩ : ∃ w1, w.alloc (.cells #[.slice none 0 0, .bool false, .int .i64 0] 64) = w1 := ⟨_, rfl⟩
  have hb1 : Below w.heap.size w w1 := by rw [← hw1]; exact (Below.refl _ w).alloc (Nat.le_refl _) _
  have x0 : w1.heap[w.heap.size]? = some (.cells #[.slice none 0 0, .bool (⟨false, 0⟩ : Bs).cell, .int .i64 (⟨false, 0⟩ : Bs).n] 64 (0, 0)) := by rw [← hw1]; exact World.alloc_heap_new w _
  have HB := Lib.hid hb1
  have HX := Lib.hid x0
  have HXL := Lib.hid (Array.getElem?_eq_some_iff.1 x0).1
  clear hs hb hT hm hml hmem hlast hz hL hbb hb1 x0
  go_enter Tryz.func117, Tryz.ntmps117
  go_wp2_with (first
    | (go_at_call 115; (with_reducible refine (S1.out _).mono ?_); rintro e w2 ⟨g, c, rfl, hb2, hg1, hg2, HC⟩; have q0 := HC.out m _ HLAST.out)
    | (go_at_call 116; (with_reducible refine (N1.out _).mono ?_); rintro e w3 ⟨rfl, hb3⟩; have x4 := (Below.heap_alloc w3 (.cells #[.slice none 0 0, .bool b.cell, .int .i64 b.n] 64) _ (Nat.lt_of_lt_of_le HXL.out (Nat.le_trans hb2.size hb3.size))).trans ((hb3.block _ (Nat.lt_of_lt_of_le HXL.out hb2.size)).trans ((hb2.block _ HXL.out).trans HX.out)); obtain ⟨y1, y2, y3, e1, e2, e3, s0, f0, s1, f1, s2, f2, z4, o4⟩ := chain64 (b0 := ⟨false, 0⟩) x4 (.slice none 0 0) b; dsimp only at s1 s2)
    | (go_at_call 177; (with_reducible refine (B1.out _).mono ?_); rintro e w4 ⟨rfl, hw⟩; rw [← hw]; clear hw))
  refine bodyPost_ret (results_type117 (x := b) z4 (by simp)) rfl ?_
  have h02 := HB.out.trans (hb2.mono HB.out.size)
  have h03 := h02.trans (hb3.mono h02.size)
  have h04 := h03.alloc h03.size (.cells #[.slice none 0 0, .bool b.cell, .int .i64 b.n] 64)
  exact ⟨_, _, _, rfl, World.ownsRow_nil _ _ _ _, h04.trans (o4.below _ h04.size (fun b hb h => by omega))⟩

theorem hd_size {s : ByteArray} (hb : begB s ⟨#[40]⟩ = true) : 1 ≤ (hd (pieces s arrowB)).size := by
  have h1 := begB_size hb
  have h1 : 1 ≤ s.size := h1
  unfold pieces
  obtain ⟨k, hk⟩ : ∃ k, s.size = k + 1 := ⟨s.size - 1, by omega⟩
  rw [hk]
  rcases Lib.indexB_cases s arrowB with h | ⟨i, h, hi⟩
  · rw [Lib.splitB_miss _ _ _ _ h]
    exact h1
  · rw [Lib.splitB_hit _ _ _ _ i h]
    show 1 ≤ (s.extract 0 (i + 0)).size
    cases i with
    | zero =>
      exfalso
      have e := Lib.index_spec s.data.toList arrowB.data.toList
      rcases e with ⟨e, _⟩ | ⟨i', e, _, ho, _⟩
      · rw [show Lib.index s.data.toList arrowB.data.toList = _ from h] at e
        cases e
      · rw [show Lib.index s.data.toList arrowB.data.toList = _ from h] at e
        have : i' = 0 := by omega
        subst this
        have h2 := Lib.occAt_head (c := 41) (t := [32, 45, 62, 32]) rfl ho
        unfold begB Lib.hasPrefix at hb
        obtain ⟨r, hr⟩ := List.isPrefixOf_iff_prefix.1 hb
        rw [← hr] at h2
        simp at h2
    | succ i =>
      simp
      omega

set_option maxRecDepth 100000 in
set_option maxHeartbeats 1000000 in
theorem refReadType_some (s : ByteArray) (w : World) (hs : s.size ≤ 900) (hb : begB s ⟨#[40]⟩ = true) :
    Calls Tryz.prog 117 #[.string s] w fun e w' => ∃ A n c, e = .returned (tyV (.slice A n c) (rfType s).result) ∧ w'.ownsRow w.heap.size 24 2 (.slice A n c) (rfType s).params.length ((rfType s).params.flatMap bsCells) ∧ Below w.heap.size w w' := by
  have hT : rfType s = ⟨(pieces ((hd (pieces s arrowB)).extract 1 (hd (pieces s arrowB)).size) commaB).map rfBase, rfBase (lst (pieces s arrowB))⟩ := by unfold rfType; rw [if_pos hb]
  rw [hT]
  obtain ⟨m, hm⟩ : ∃ m, (pieces s arrowB).length = m + 1 := ⟨(pieces s arrowB).length - 1, by have := List.length_pos_iff.2 (pieces_ne s arrowB); omega⟩
  have hml := pieces_len s arrowB
  obtain ⟨hmem, hlast⟩ := lst_mem hm
  obtain ⟨hmem0, hfirst⟩ := hd_mem (pieces_ne s arrowB)
  have hz := pieces_size hmem
  have hz0 := pieces_size hmem0
  have hz1 := hd_size hb
  have S1 : Hid (∀ W, Calls Tryz.prog 115 #[.string s, .string ⟨#[41, 32, 45, 62, 32]⟩] W fun e w' => ∃ g c, e = .returned (.slice (some ⟨g, 0, none⟩) (m + 1) c) ∧ Below W.heap.size W w' ∧ W.heap.size ≤ g ∧ g < w'.heap.size ∧ Hid (∀ (j : Nat) x, (pieces s arrowB)[j]? = some x → w'.cell? ⟨g, j, none⟩ = some (.string x))) := Lib.hid fun W => split_cells s arrowB W (by omega) (by decide) (by decide) hm
  have N1 : Hid (∀ W, Calls Tryz.prog 116 #[.string (lst (pieces s arrowB))] W fun e w' => e = .returned (bsV (rfBase (lst (pieces s arrowB)))) ∧ Below W.heap.size W w') := Lib.hid fun W => refReadBase_any _ W (by omega)
  have B1 : Hid (∀ W, Calls Tryz.prog 177 #[.string s, .string ⟨#[40]⟩] W fun e w' => e = .returned (.bool true) ∧ W = w') := Lib.hid fun W => by
    have := begins_any s ⟨#[40]⟩ W (by omega) (by decide)
    rw [show Lib.hasPrefix s.data.toList (⟨#[40]⟩ : ByteArray).data.toList = true from hb] at this
    exact this
  have HLAST := Lib.hid hlast
  have HFIRST := Lib.hid hfirst
  obtain ⟨L, hL⟩ : ∃ L, lst (pieces s arrowB) = L := ⟨_, rfl⟩
  obtain ⟨X, hX⟩ : ∃ X, hd (pieces s arrowB) = X := ⟨_, rfl⟩
  rw [hL] at N1 HLAST
  rw [hX] at HFIRST hz0 hz1
  rw [hL, hX]
  obtain ⟨Y, hY⟩ : ∃ Y, X.extract 1 X.size = Y := ⟨_, rfl⟩
  have hYz : Y.size ≤ 900 := by rw [← hY]; simp; omega
  rw [hY]
  obtain ⟨m2, hm2⟩ : ∃ m, (pieces Y commaB).length = m + 1 := ⟨(pieces Y commaB).length - 1, by have := List.length_pos_iff.2 (pieces_ne Y commaB); omega⟩
  have hml2 := pieces_len Y commaB
  have hm21 : m2 ≤ 900 := by omega
  have S2 : Hid (∀ W, Calls Tryz.prog 115 #[.string Y, .string ⟨#[44, 32]⟩] W fun e w' => ∃ g c, e = .returned (.slice (some ⟨g, 0, none⟩) (m2 + 1) c) ∧ Below W.heap.size W w' ∧ W.heap.size ≤ g ∧ g < w'.heap.size ∧ Hid (∀ (j : Nat) x, (pieces Y commaB)[j]? = some x → w'.cell? ⟨g, j, none⟩ = some (.string x))) := Lib.hid fun W => split_cells Y commaB W (by omega) (by decide) (by decide) hm2
  have N2 : Hid (∀ x ∈ pieces Y commaB, ∀ W, Calls Tryz.prog 116 #[.string x] W fun e w' => e = .returned (bsV (rfBase x)) ∧ Below W.heap.size W w') := Lib.hid fun x hx W => refReadBase_any _ W (by have := pieces_size hx; omega)
  obtain ⟨qs, hqs⟩ : ∃ qs, pieces Y commaB = qs := ⟨_, rfl⟩
  rw [hqs] at S2 N2 hm2 ⊢
  have HQL := Lib.hid hm2
  obtain ⟨b, hbb⟩ : ∃ b, rfBase L = b := ⟨_, rfl⟩
  rw [hbb] at N1 ⊢
  dsimp only
  unfold bsV at N1
  have hm1 : m ≤ 900 := by omega
  obtain ⟨w1, hw1⟩ : ∃ w1, w.alloc (.cells #[.slice none 0 0, .bool false, .int .i64 0] 64) = w1 := ⟨_, rfl⟩
  have hb1 : Below w.heap.size w w1 := by rw [← hw1]; exact (Below.refl _ w).alloc (Nat.le_refl _) _
  have x0 : w1.heap[w.heap.size]? = some (.cells #[.slice none 0 0, .bool (⟨false, 0⟩ : Bs).cell, .int .i64 (⟨false, 0⟩ : Bs).n] 64 (0, 0)) := by rw [← hw1]; exact World.alloc_heap_new w _
  have HB := Lib.hid hb1
  have HX := Lib.hid x0
  have HXL := Lib.hid (Array.getElem?_eq_some_iff.1 x0).1
  clear hs hb hT hm hml hmem hlast hz hL hbb hb1 x0 hmem0 hfirst hz0 hX hYz hml2 hm2 hqs
  go_enter Tryz.func117, Tryz.ntmps117
  go_wp2_with (first
    | (go_at_call 115; (with_reducible refine (S1.out _).mono ?_); rintro e w2 ⟨g, c, rfl, hb2, hg1, hg2, HC⟩; have q0 := HC.out m _ HLAST.out)
    | (go_at_call 116; go_loud ((with_reducible refine (N1.out _).mono ?_); rintro e w3 ⟨rfl, hb3⟩; have r0 := (Below.heap_alloc w3 (.cells #[.slice none 0 0, .bool b.cell, .int .i64 b.n] 64) _ (Nat.lt_of_lt_of_le hg2 hb3.size)).trans (hb3.block _ hg2); have q1 := (World.cell?_of_block (a := ⟨g, 0, none⟩) r0).trans (HC.out 0 _ HFIRST.out)))
    | (go_at_call 177; (with_reducible refine (B1.out _).mono ?_); rintro e w4 ⟨rfl, hw⟩; rw [← hw]; clear hw)
    | (go_at_call 115; (with_reducible refine (S2.out _).mono ?_); rintro e w5 ⟨g2, c2, rfl, hb5, hg3, hg4, HC2⟩; have h0S : w1.heap.size ≤ (w3.alloc (.cells #[.slice none 0 0, .bool b.cell, .int .i64 b.n] 64)).heap.size := Nat.le_trans hb2.size (Nat.le_trans hb3.size (by simp))))
  have HS : Hid (w.heap.size < w3.heap.size ∧ w3.heap.size < g2 ∧ g2 < w5.heap.size) := Lib.hid ⟨Nat.lt_of_lt_of_le HXL.out (Nat.le_trans hb2.size hb3.size), by have := hg3; simp at this; omega, hg4⟩
  have h02 := HB.out.trans (hb2.mono HB.out.size)
  have h03 := h02.trans (hb3.mono h02.size)
  have h04 := h03.alloc h03.size (.cells #[.slice none 0 0, .bool b.cell, .int .i64 b.n] 64)
  have H05 := Lib.hid (h04.trans (hb5.mono h04.size))
  have HX5 := Lib.hid ((hb5.block _ (Nat.lt_of_lt_of_le HXL.out h0S)).trans ((Below.heap_alloc w3 (.cells #[.slice none 0 0, .bool b.cell, .int .i64 b.n] 64) _ HS.out.1).trans ((hb3.block _ (Nat.lt_of_lt_of_le HXL.out hb2.size)).trans ((hb2.block _ HXL.out).trans HX.out))))
  have HY5 : Hid (w5.heap[w3.heap.size]? = some (.cells #[.slice none 0 0, .bool b.cell, .int .i64 b.n] 64 (0, 0))) := Lib.hid ((hb5.block _ (by simp)).trans (World.alloc_heap_new w3 _))
  clear hb2 hb3 hb5 h02 h03 h04 h0S q0 q1 r0 hg1 hg2 hg3 hg4
  go_loopw [6] (fun i wr => ∃ (ps : List Bs) (A : Option Addr) (c : Nat), i = .int .i64 (ps.length : Int) ∧ Hid ((qs.map rfBase).take ps.length = ps) ∧ ps.length ≤ m2 + 1 ∧ Hid (wr.heap[w3.heap.size]? = some (.cells #[.slice A ps.length c, .bool b.cell, .int .i64 b.n] 64 (0, 0))) ∧ Hid (wr.ownsRow w5.heap.size 24 2 (.slice A ps.length c) ps.length (ps.flatMap bsCells)) ∧ Hid (Only (fun k => k = w3.heap.size ∨ w5.heap.size ≤ k) w5 wr)) (fun i _ => m2 + 1 - (intOf i).toNat)
  case atStart => exact ⟨[], none, 0, rfl, Lib.hid rfl, by simp, HY5, Lib.hid (World.ownsRow_nil _ _ _ _), Lib.hid (Only.refl _ _)⟩
  case round =>
    obtain ⟨ps, A, c3, rfl, hps, hpl, hbx, hrow, hon⟩ := hrel
    have d0 := cell_of_row wr _ 0 _ 64 (0, 0) hbx.out
    have d1 := cell_of_row wr _ 1 _ 64 (0, 0) hbx.out
    have d2 := cell_of_row wr _ 2 _ 64 (0, 0) hbx.out
    by_cases hlt : ps.length < m2 + 1
    · obtain ⟨x, hx⟩ : ∃ x, qs[ps.length]? = some x := ⟨_, List.getElem?_eq_getElem (by have := HQL.out; omega)⟩
      have e0 : wr.cell? ⟨g2, ps.length, none⟩ = some (.string x) := (hon.out.cell (p := ⟨g2, ps.length, none⟩) HS.out.2.2 (by have := HS.out; dsimp only; omega)).trans (HC2.out _ _ hx)
      have HN := Lib.hid (N2.out x (List.mem_of_getElem? hx))
      have HX := Lib.hid hx
      unfold bsV at HN
      have hz5 : w5.heap.size ≤ wr.heap.size := hon.out.size
      have HPA : Hid (∀ W6, Below wr.heap.size wr W6 → _) := Lib.hid fun W6 h6 => par_arm (x := rfBase x) (Nat.lt_trans HS.out.2.1 HS.out.2.2) hz5 (by omega) hbx.out hrow.out h6
      clear hx
      go_wp2_with fail
      go_region_with (go_at_call 116; refine (HN.out _).mono ?_; rintro e W6 ⟨rfl, hb6⟩; obtain ⟨k1, k2, g', cap', w8, hrun, k3, k4, HX8, HR8, HO8⟩ := HPA.out W6 (((Below.refl _ wr).drew).trans hb6))
      all_goals go_wp2
      all_goals refine ⟨⟨ps ++ [rfBase x], some ⟨g', 0, none⟩, cap', by simp, Lib.hid ?_, by simp; omega, Lib.hid (by rw [List.length_append]; exact HX8.out), Lib.hid (by rw [List.length_append]; exact HR8.out), Lib.hid (hon.out.trans HO8.out (fun i hi h => h))⟩, by simp [intOf]; omega⟩
      all_goals (
        rw [List.length_append, List.length_singleton, take_snoc (x := rfBase x) (by rw [List.getElem?_map, HX.out]; rfl), hps.out])
    · have hpm : ps.length = m2 + 1 := by omega
      have hpq : ps = qs.map rfBase := by
        rw [← hps.out]
        exact List.take_of_length_le (by rw [List.length_map]; have := HQL.out; omega)
      have hlen : (qs.map rfBase).length = m2 + 1 := by rw [← hpq]; exact hpm
      have x5 := (hon.out.block _ (Nat.lt_trans (Nat.lt_trans HS.out.1 HS.out.2.1) HS.out.2.2) (by have := HS.out; omega)).trans HX5.out
      obtain ⟨y1, y2, y3, e1, e2, e3, s0, f0, s1, f1, s2, f2, z4, o4⟩ := chain64 (b0 := ⟨false, 0⟩) x5 (.slice A ps.length c3) b
      dsimp only at s1 s2
      have HPQ := Lib.hid hpq
      have HLEN := Lib.hid hlen
      clear hpq hlen hpm x5
      go_wp2
      refine bodyPost_ret (results_type117 (x := b) z4 (by simp)) rfl ?_
      have hr := row_low (row_only2 hrow.out o4 (fun b hb h => by have := HS.out; omega)) (Nat.le_of_lt (Nat.lt_trans (Nat.lt_trans HS.out.1 HS.out.2.1) HS.out.2.2))
      refine ⟨A, ps.length, c3, rfl, ?_, H05.out.trans ((hon.out.below _ H05.out.size (fun b hb h => by have := HS.out; omega)).trans (o4.below _ (Nat.le_trans H05.out.size hon.out.size) (fun b hb h => by omega)))⟩
      have hr2 := hr
      rw [HPQ.out] at hr2 ⊢
      exact hr2

theorem refReadType_any (s : ByteArray) (w : World) (hs : s.size ≤ 900) :
    Calls Tryz.prog 117 #[.string s] w fun e w' => ∃ A n c, e = .returned (tyV (.slice A n c) (rfType s).result) ∧ w'.ownsRow w.heap.size 24 2 (.slice A n c) (rfType s).params.length ((rfType s).params.flatMap bsCells) ∧ Below w.heap.size w w' := by
  cases hb : begB s ⟨#[40]⟩ with
  | true => exact refReadType_some s w hs hb
  | false => exact refReadType_none s w hs hb
end Go.Proofs.YtklfojmflmablaaGreatDoor
/- The reference: Read. -/
namespace Go.Proofs.YtklfojmflmablaaGreatDoor
open Go Go.RowKit Go.Shelf
attribute [local go_sem ↓] append_shut

def rfJ (l : List ByteArray) : Bool := decide (2 ≤ l.length) && (lst l).toList == [106, 117, 109, 112, 115]
def rfT (l : List ByteArray) : List ByteArray := if rfJ l then l.tail.dropLast else l.tail
/-- What a text looks like to the reference as an arena. -/
def rfArena (s : ByteArray) : Ar := ⟨(rfT (pieces s semiB)).map rfType, rfBase (hd (pieces s semiB)), rfJ (pieces s semiB)⟩
def rfR (s : ByteArray) : Ar × Int := if (showRes (rfArena s)).2 = 0 ∧ (showRes (rfArena s)).1 = s then (rfArena s, 0) else (zeroAr, 4)

theorem rfT_len (l : List ByteArray) : (rfT l).length ≤ l.length := by
  unfold rfT
  split
  · rw [List.length_dropLast, List.length_tail]; omega
  · rw [List.length_tail]; omega
theorem rfT_get {l : List ByteArray} {m ii : Nat} (hl : l.length = m + 1) (h1 : 1 ≤ ii) (h2 : ii ≤ m) (h : ¬ (ii = m ∧ rfJ l = true)) {x : ByteArray} (hx : l[ii]? = some x) : (rfT l)[ii - 1]? = some x := by
  have ht : l.tail[ii - 1]? = some x := by rw [List.getElem?_tail, show ii - 1 + 1 = ii by omega]; exact hx
  unfold rfT
  split
  · rename_i hj
    have hne : ii ≠ m := fun e => h ⟨e, hj⟩
    rw [List.getElem?_dropLast, if_pos (by rw [List.length_tail]; omega)]
    exact ht
  · exact ht
theorem rfT_end {l : List ByteArray} {m : Nat} (hl : l.length = m + 1) (hj : rfJ l = true) : (rfT l).take (m - 1) = (rfT l).take (m + 1 - 1) := by
  have : (rfT l).length = m - 1 := by
    unfold rfT
    rw [if_pos hj, List.length_dropLast, List.length_tail]
    omega
  rw [List.take_of_length_le (by omega), List.take_of_length_le (by omega)]
theorem rfJ_last {l : List ByteArray} {m : Nat} (hl : l.length = m + 1) (hm : 1 ≤ m) {x : ByteArray} (hx : l[m]? = some x) : rfJ l = (x.toList == [106, 117, 109, 112, 115]) := by
  have h := (lst_mem hl).2
  rw [hx] at h
  injection h with h
  unfold rfJ
  rw [← h, decide_eq_true (by omega), Bool.true_and]
theorem rfJ_one {l : List ByteArray} (hl : l.length = 1) : rfJ l = false := by
  unfold rfJ
  rw [decide_eq_false (by omega), Bool.false_and]

theorem copy_jump {W : World} {n0 B : Nat} {v : Value} {zs : List (Value × Ty)} {root : Bs} {ju : Bool} (h : CopyInv W n0 B v zs root ju) (hB : B < n0) : CopyInv (W.setCell ⟨B, 2 + 1, none⟩ (.bool true)) n0 B v zs root true := by
  have ho : Only (fun b => b = B) W (W.setCell ⟨B, 2 + 1, none⟩ (.bool true)) := (Only.refl (fun k => k = B) W).setCell _ _ fun _ => rfl
  refine ⟨heap_setCell_same W B 3 _ 26 (.bool true) h.1, rowOnly h.2.1 ho hB, fun z hz => ⟨rowOnly (h.2.2 z hz).1 ho hB, (h.2.2 z hz).2⟩⟩

theorem boxA_four {W : World} {B : Nat} {v : Value} {r : Bs} {j : Bool} (h : BoxA W B v r j) : W.cell? ⟨B, 0, none⟩ = some v ∧ W.cell? ⟨B, 1, none⟩ = some (.bool r.cell) ∧ W.cell? ⟨B, 2, none⟩ = some (.int .i64 r.n) ∧ W.cell? ⟨B, 3, none⟩ = some (.bool j) :=
  ⟨cell_of_row W B 0 _ 26 (0, 0) h, cell_of_row W B 1 _ 26 (0, 0) h, cell_of_row W B 2 _ 26 (0, 0) h, cell_of_row W B 3 _ 26 (0, 0) h⟩
theorem results_read47 {tmps : Array Value} {W : World} {B : Nat} {v : Value} {root : Bs} {ju : Bool} {e : Int} (h : BoxA W B v root ju) (t2 : tmps[2]?.getD undef = .pointer (some ⟨B, 0, none⟩)) (t3 : tmps[3]?.getD undef = .int .i64 e) :
    (results Tryz.f47 tmps).run Tryz.prog W = .ok (.tuple #[arV v root ju, .int .i64 e]) W := by
  have c0 := cell_of_row W B 0 _ 26 (0, 0) h
  have c1 := cell_of_row W B 1 _ 26 (0, 0) h
  have c2 := cell_of_row W B 2 _ 26 (0, 0) h
  have c3 := cell_of_row W B 3 _ 26 (0, 0) h
  simp at c0 c1 c2 c3
  simp [results, Tryz.results47, t2, t3, go_sem, loadVar, c0, c1, c2, c3, arV]

theorem rfType_params (s : ByteArray) : (rfType s).params.length ≤ s.size + 1 := by
  unfold rfType
  dsimp only
  split
  · rw [List.length_map]
    have h1 := pieces_len ((hd (pieces s arrowB)).extract 1 (hd (pieces s arrowB)).size) commaB
    have h2 := pieces_size (hd_mem (pieces_ne s arrowB)).1
    simp at h1
    omega
  · exact Nat.zero_le _
theorem rfT_mem {l : List ByteArray} {x : ByteArray} (h : x ∈ rfT l) : x ∈ l := by
  unfold rfT at h
  split at h
  · exact List.mem_of_mem_tail ((List.dropLast_sublist _).subset h)
  · exact List.mem_of_mem_tail h
theorem rfArena_ids (s : ByteArray) : (rfArena s).ids.length ≤ s.size + 1 := by
  unfold rfArena
  dsimp only
  rw [List.length_map]
  exact Nat.le_trans (rfT_len _) (pieces_len _ _)
theorem rfArena_params (s : ByteArray) : ∀ t ∈ (rfArena s).ids, t.params.length ≤ s.size + 1 := by
  intro t ht
  unfold rfArena at ht
  dsimp only at ht
  obtain ⟨x, hx, rfl⟩ := List.mem_map.1 ht
  have := rfType_params x
  have := pieces_size (rfT_mem hx)
  omega

set_option maxRecDepth 100000 in
set_option maxHeartbeats 2000000 in
theorem refRead_any (s : ByteArray) (w : World) (hs : s.size ≤ 800) :
    Calls Tryz.prog 47 #[.string s] w fun e w' => ∃ v, e = .returned (.tuple #[arV v (rfR s).1.root (rfR s).1.jumps, .int .i64 (rfR s).2]) ∧ TyIn w' w'.heap.size v (rfR s).1.ids ∧ Below w.heap.size w w' := by
  have hl := rfArena_ids s
  have hp := rfArena_params s
  obtain ⟨RR, hRR⟩ : ∃ RR, rfR s = RR := ⟨_, rfl⟩
  have HR := Lib.hid (show (if (showRes (rfArena s)).2 = 0 ∧ (showRes (rfArena s)).1 = s then (rfArena s, (0 : Int)) else (zeroAr, 4)) = RR from hRR)
  rw [hRR]
  have CS : Hid (∀ W v, TyIn W W.heap.size v (rfArena s).ids → Calls Tryz.prog 24 #[arV v (rfArena s).root (rfArena s).jumps] W fun e w' => e = .returned (.tuple #[.string (showRes (rfArena s)).1, .int .i64 (showRes (rfArena s)).2]) ∧ Below W.heap.size W w') :=
    Lib.hid fun W v hv => refShow_any _ (rfArena s) W (by omega) (fun t ht => by have := hp t ht; omega) hv
  obtain ⟨T, eT⟩ : ∃ T, (showRes (rfArena s)).1 = T := ⟨_, rfl⟩
  obtain ⟨r, er⟩ : ∃ r, (showRes (rfArena s)).2 = r := ⟨_, rfl⟩
  rw [eT, er] at CS HR
  obtain ⟨m, hm⟩ : ∃ m, (pieces s semiB).length = m + 1 := ⟨(pieces s semiB).length - 1, by have := List.length_pos_iff.2 (pieces_ne s semiB); omega⟩
  have hml := pieces_len s semiB
  have hm1 : m ≤ 800 := by omega
  obtain ⟨hmem0, hfirst⟩ := hd_mem (pieces_ne s semiB)
  have hz0 := pieces_size hmem0
  have S1 : Hid (∀ W, Calls Tryz.prog 115 #[.string s, .string ⟨#[59, 32]⟩] W fun e w' => ∃ g c, e = .returned (.slice (some ⟨g, 0, none⟩) (m + 1) c) ∧ Below W.heap.size W w' ∧ W.heap.size ≤ g ∧ g < w'.heap.size ∧ Hid (∀ (j : Nat) x, (pieces s semiB)[j]? = some x → w'.cell? ⟨g, j, none⟩ = some (.string x))) := Lib.hid fun W => split_cells s semiB W (by omega) (by decide) (by decide) hm
  have N1 : Hid (∀ W, Calls Tryz.prog 116 #[.string (hd (pieces s semiB))] W fun e w' => e = .returned (bsV (rfBase (hd (pieces s semiB)))) ∧ Below W.heap.size W w') := Lib.hid fun W => refReadBase_any _ W (by omega)
  have N2 : Hid (∀ x ∈ pieces s semiB, ∀ W, Calls Tryz.prog 117 #[.string x] W fun e w' => ∃ A n c, e = .returned (tyV (.slice A n c) (rfType x).result) ∧ w'.ownsRow W.heap.size 24 2 (.slice A n c) (rfType x).params.length ((rfType x).params.flatMap bsCells) ∧ Below W.heap.size W w') := Lib.hid fun x hx W => refReadType_any _ W (by have := pieces_size hx; omega)
  have HA := Lib.hid (show rfArena s = ⟨(rfT (pieces s semiB)).map rfType, rfBase (hd (pieces s semiB)), rfJ (pieces s semiB)⟩ from rfl)
  have HFIRST := Lib.hid hfirst
  obtain ⟨X, hX⟩ : ∃ X, hd (pieces s semiB) = X := ⟨_, rfl⟩
  rw [hX] at N1 HA HFIRST
  obtain ⟨qs, hqs⟩ : ∃ qs, pieces s semiB = qs := ⟨_, rfl⟩
  rw [hqs] at S1 N2 hm HA HFIRST
  have HQL := Lib.hid hm
  obtain ⟨b, hbb⟩ : ∃ b, rfBase X = b := ⟨_, rfl⟩
  rw [hbb] at N1 HA
  obtain ⟨R, hR⟩ : ∃ R, rfArena s = R := ⟨_, rfl⟩
  rw [hR] at HA CS HR
  unfold bsV at N1
  obtain ⟨w1, hw1⟩ : ∃ w1, w.alloc (.cells #[.slice none 0 0, .bool false, .int .i64 0, .bool false] 26) = w1 := ⟨_, rfl⟩
  have hb1 : Below w.heap.size w w1 := by rw [← hw1]; exact (Below.refl _ w).alloc (Nat.le_refl _) _
  have x0 : BoxA w1 w.heap.size (.slice none 0 0) ⟨false, 0⟩ false := by rw [← hw1]; exact World.alloc_heap_new w _
  have HB := Lib.hid hb1
  have HX := Lib.hid x0
  have HXL := Lib.hid x0.lt
  clear hl hp hs eT er hm hml hmem0 hfirst hz0 hX hqs hbb hR hb1 x0 hRR
  go_enter Tryz.func47, Tryz.ntmps47
  go_wp2_with (first
    | (go_at_call 115; (with_reducible refine (S1.out _).mono ?_); rintro e w2 ⟨g, c, rfl, hb2, hg1, hg2, HC⟩; have q0 := HC.out 0 _ HFIRST.out)
    | (go_at_call 116; (with_reducible refine (N1.out _).mono ?_); rintro e w3 ⟨rfl, hb3⟩))
  have HS : Hid (w.heap.size < w3.heap.size ∧ g < w3.heap.size) := Lib.hid ⟨Nat.lt_of_lt_of_le HXL.out (Nat.le_trans hb2.size hb3.size), Nat.lt_of_lt_of_le hg2 hb3.size⟩
  have h02 := HB.out.trans (hb2.mono HB.out.size)
  have H03 := Lib.hid (h02.trans (hb3.mono h02.size))
  have HX3 : Hid (BoxA w3 w.heap.size (.slice none 0 0) ⟨false, 0⟩ false) := Lib.hid ((hb3.block _ (Nat.lt_of_lt_of_le HXL.out hb2.size)).trans ((hb2.block _ HXL.out).trans HX.out))
  have HC3 : Hid (∀ (j : Nat) x, qs[j]? = some x → w3.cell? ⟨g, j, none⟩ = some (.string x)) := Lib.hid fun j x hx => (World.cell?_of_block (a := ⟨g, j, none⟩) (hb3.block _ hg2)).trans (HC.out j x hx)
  clear hb2 hb3 h02 q0 hg1 hg2
  go_loopw [6] (fun i wr => ∃ (ii : Nat) (zs : List (Value × Ty)) (A : Option Addr) (c : Nat) (ju : Bool), i = .int .i64 (ii : Int) ∧ 1 ≤ ii ∧ ii ≤ m + 1 ∧ zs.length + 1 ≤ ii ∧ Hid (zs.map Prod.snd = ((rfT qs).take (ii - 1)).map rfType) ∧ Hid (ju = (decide (ii = m + 1) && rfJ qs)) ∧ Hid (CopyInv wr (w3.heap.size + 1) w3.heap.size (.slice A zs.length c) zs b ju) ∧ Hid (Below w3.heap.size w3 wr)) (fun i _ => m + 1 - (intOf i).toNat)
  case atStart =>
    refine ⟨1, [], none, 0, false, rfl, Nat.le_refl _, by omega, Nat.le_refl _, Lib.hid rfl, Lib.hid ?_, Lib.hid (copy_new (World.alloc_heap_new w3 _)), Lib.hid ((Below.refl _ w3).alloc (Nat.le_refl _) _)⟩
    by_cases h0 : m = 0
    · rw [rfJ_one (by rw [HQL.out, h0]), Bool.and_false]
    · rw [decide_eq_false (by omega), Bool.false_and]
  case round =>
    obtain ⟨ii, zs, A, c3, ju, rfl, hi1, hi2, hzl, hzs, hju, hci, hbe⟩ := hrel
    obtain ⟨d0, d1, d2, d3⟩ := boxA_four hci.out.1
    by_cases hlt : ii < m + 1
    · obtain ⟨x, hx⟩ : ∃ x, qs[ii]? = some x := ⟨_, List.getElem?_eq_getElem (by have := HQL.out; omega)⟩
      have e0 : wr.cell? ⟨g, ii, none⟩ = some (.string x) := (World.cell?_of_block (a := ⟨g, ii, none⟩) (hbe.out.block _ HS.out.2)).trans (HC3.out _ _ hx)
      have hjf : ju = false := by rw [hju.out, decide_eq_false (by omega), Bool.false_and]
      subst hjf
      have HN := Lib.hid (N2.out x (List.mem_of_getElem? hx))
      have HX := Lib.hid hx
      have hz3 : w3.heap.size + 1 ≤ wr.heap.size := hci.out.1.lt
      by_cases him : ii = m
      · subst him
        cases hj : (x.toList == [106, 117, 109, 112, 115]) with
        | true =>
          have f3 : wr.frozen? ⟨w3.heap.size, 2 + 1, none⟩ = false := by simp [World.frozen?, show wr.heap[w3.heap.size]? = _ from hci.out.1]
          go_wp2
          all_goals refine ⟨⟨ii + 1, zs, A, c3, true, by simp, by omega, by omega, by omega, Lib.hid ?_, Lib.hid ?_, Lib.hid (copy_jump hci.out (Nat.lt_succ_self _)), Lib.hid (hbe.out.setCell (p := ⟨w3.heap.size, 3, none⟩) (Nat.le_refl _) _)⟩, by simp [intOf] <;> omega⟩
          · rw [hzs.out, rfT_end HQL.out (by rw [rfJ_last HQL.out hi1 HX.out]; exact hj)]
          · rw [rfJ_last HQL.out hi1 HX.out, hj, decide_eq_true rfl, Bool.true_and]
        | false =>
          have HRJ : Hid (rfJ qs = false) := Lib.hid (by rw [rfJ_last HQL.out hi1 HX.out]; exact hj)
          have hx2 := HX.out
          have hz4 : zs.length ≤ 1000 := by omega
          have HG : Hid ((rfT qs)[ii - 1]? = some x) := Lib.hid (rfT_get HQL.out hi1 (by omega) (fun h => by rw [HRJ.out] at h; exact absurd h.2 (by simp)) hx2)
          obtain ⟨Tx, hTx⟩ : ∃ Tx, rfType x = Tx := ⟨_, rfl⟩
          rw [hTx] at HN
          unfold tyV at HN
          have HCA : Hid (∀ W6 A' n' c', Below wr.heap.size wr W6 → W6.ownsRow wr.heap.size 24 2 (.slice A' n' c') Tx.params.length (Tx.params.flatMap bsCells) → _) := Lib.hid fun W6 A' n' c' h6 hp6 => copy_arm (x := Tx) (Nat.lt_succ_self _) hz3 hz4 hci.out h6 hp6 rfl
          clear hx2
          go_wp2_with fail
          go_region_with (go_at_call 117; refine (HN.out _).mono ?_; rintro e W6 ⟨A', n', c', rfl, hp6, hb6⟩; obtain ⟨k1, k2, g', cap', w8, hrun, k3, k4, HST, HB8⟩ := HCA.out W6 A' n' c' (((Below.refl _ wr).drew).trans hb6) hp6)
          all_goals go_wp2
          all_goals refine ⟨⟨ii + 1, zs ++ [(.slice A' n' c', Tx)], some ⟨g', 0, none⟩, cap', false, by simp, by omega, by omega, by simp; omega, Lib.hid ?_, Lib.hid (by rw [HRJ.out, Bool.and_false]), Lib.hid (by rw [List.length_append]; exact HST.out), Lib.hid (hbe.out.trans (HB8.out.mono (Nat.le_refl _)))⟩, by simp [intOf] <;> omega⟩
          all_goals (
            have hii : ii + 1 - 1 = (ii - 1) + 1 := by omega
            rw [List.map_append, hzs.out, hii, take_snoc HG.out, List.map_append, List.map_singleton, List.map_singleton, hTx])
      · have hx2 := HX.out
        have hz4 : zs.length ≤ 1000 := by omega
        have HG : Hid ((rfT qs)[ii - 1]? = some x) := Lib.hid (rfT_get HQL.out hi1 (by omega) (fun h => him h.1) hx2)
        obtain ⟨Tx, hTx⟩ : ∃ Tx, rfType x = Tx := ⟨_, rfl⟩
        rw [hTx] at HN
        unfold tyV at HN
        have HCA : Hid (∀ W6 A' n' c', Below wr.heap.size wr W6 → W6.ownsRow wr.heap.size 24 2 (.slice A' n' c') Tx.params.length (Tx.params.flatMap bsCells) → _) := Lib.hid fun W6 A' n' c' h6 hp6 => copy_arm (x := Tx) (Nat.lt_succ_self _) hz3 hz4 hci.out h6 hp6 rfl
        clear hx2
        have hmi : ¬ (ii : Int) = (m : Int) := by omega
        go_wp2_with fail
        go_region_with (go_at_call 117; refine (HN.out _).mono ?_; rintro e W6 ⟨A', n', c', rfl, hp6, hb6⟩; obtain ⟨k1, k2, g', cap', w8, hrun, k3, k4, HST, HB8⟩ := HCA.out W6 A' n' c' (((Below.refl _ wr).drew).trans hb6) hp6)
        all_goals go_wp2
        all_goals refine ⟨⟨ii + 1, zs ++ [(.slice A' n' c', Tx)], some ⟨g', 0, none⟩, cap', false, by simp, by omega, by omega, by simp; omega, Lib.hid ?_, Lib.hid (by rw [decide_eq_false (by omega), Bool.false_and]), Lib.hid (by rw [List.length_append]; exact HST.out), Lib.hid (hbe.out.trans (HB8.out.mono (Nat.le_refl _)))⟩, by simp [intOf] <;> omega⟩
        all_goals (
          have hii : ii + 1 - 1 = (ii - 1) + 1 := by omega
          rw [List.map_append, hzs.out, hii, take_snoc HG.out, List.map_append, List.map_singleton, List.map_singleton, hTx])
    · obtain rfl : ii = m + 1 := by omega
      have hjr : ju = rfJ qs := by rw [hju.out, decide_eq_true rfl, Bool.true_and]
      subst hjr
      have hfull : (rfT qs).take (m + 1 - 1) = rfT qs := List.take_of_length_le (by
        unfold rfT
        have h1 := HQL.out
        split
        · rw [List.length_dropLast, List.length_tail]; omega
        · rw [List.length_tail]; omega)
      have CS2 : Hid (Calls Tryz.prog 24 #[.agg #[.slice A zs.length c3, .bool b.cell, .int .i64 b.n, .bool (rfJ qs)]] wr fun e w' => e = .returned (.tuple #[.string T, .int .i64 r]) ∧ Below wr.heap.size wr w') := Lib.hid (by
        have := CS.out wr (.slice A zs.length c3) (by
          have h1 := copy_done hci.out
          rw [hzs.out, hfull] at h1
          rw [HA.out]
          exact h1)
        rw [HA.out] at this
        exact this)
      by_cases hr : r = 0
      · subst hr
        by_cases hT : T = s
        · have hm0 : RR = (R, 0) := by rw [← HR.out, if_pos ⟨rfl, hT⟩]
          have hm1 := HA.out
          subst hm1
          subst hm0
          have hTs : (T.toList == s.toList) = true := by rw [hT]; exact beq_self_eq_true _
          go_wp2_with (go_at_call 24; (with_reducible refine (CS2.out).mono ?_); rintro e w5 ⟨rfl, hb5⟩; have x5 : BoxA w5 w.heap.size (.slice none 0 0) ⟨false, 0⟩ false := (hb5.block _ (Nat.lt_of_lt_of_le HS.out.1 hbe.out.size)).trans ((hbe.out.block _ HS.out.1).trans HX3.out); have q5 : BoxA w5 w3.heap.size (.slice A zs.length c3) b (rfJ qs) := (hb5.block _ hci.out.1.lt).trans hci.out.1; have d0 := cell_of_row w5 _ 0 _ 26 (0, 0) q5; have d1 := cell_of_row w5 _ 1 _ 26 (0, 0) q5; have d2 := cell_of_row w5 _ 2 _ 26 (0, 0) q5; have d3 := cell_of_row w5 _ 3 _ 26 (0, 0) q5; obtain ⟨y1, y2, y3, y4, e1, e2, e3, e4, s0, f0, s1, f1, s2, f2, s3, f3, z4, o4⟩ := chain26 x5 (.slice A zs.length c3) b (rfJ qs); dsimp only at s1 s2)
          have h04 := H03.out.trans (hbe.out.mono (Nat.le_of_lt HS.out.1))
          have h05 := h04.trans (hb5.mono h04.size)
          refine bodyPost_ret (results_read47 (root := b) (e := 0) z4 (by simp) (by simp)) rfl ?_
          refine ⟨_, rfl, ?_, h05.trans (o4.below _ h05.size (fun b hb h => by omega))⟩
          have := copy_done (copy_only (copy_below hci.out hb5) o4 (by have := HS.out; omega) (by have := HS.out; omega))
          rw [hzs.out, hfull] at this
          exact this
        · have hm0 : RR = (zeroAr, 4) := by rw [← HR.out, if_neg (fun h => hT h.2)]
          subst hm0
          have hTs := bytes_ne2 hT
          go_wp2_with (go_at_call 24; (with_reducible refine (CS2.out).mono ?_); rintro e w5 ⟨rfl, hb5⟩; have x5 : BoxA w5 w.heap.size (.slice none 0 0) ⟨false, 0⟩ false := (hb5.block _ (Nat.lt_of_lt_of_le HS.out.1 hbe.out.size)).trans ((hbe.out.block _ HS.out.1).trans HX3.out); obtain ⟨y1, y2, y3, y4, e1, e2, e3, e4, s0, f0, s1, f1, s2, f2, s3, f3, z4, o4⟩ := chain26 x5 (.slice none 0 0) ⟨false, 0⟩ false; dsimp only at e2 e3 s1 s2)
          have h04 := H03.out.trans (hbe.out.mono (Nat.le_of_lt HS.out.1))
          have h05 := h04.trans (hb5.mono h04.size)
          refine bodyPost_ret (results_read47 (root := ⟨false, 0⟩) (e := 4) z4 (by simp) (by simp)) rfl ?_
          exact ⟨_, rfl, ⟨none, 0, rfl, fun i x hx => by simp [zeroAr] at hx⟩, h05.trans (o4.below _ h05.size (fun b hb h => by omega))⟩
      · have hm0 : RR = (zeroAr, 4) := by rw [← HR.out, if_neg (fun h => hr h.1)]
        subst hm0
        have hne : (r != 0) = true := by simpa using hr
        go_wp2_with (go_at_call 24; (with_reducible refine (CS2.out).mono ?_); rintro e w5 ⟨rfl, hb5⟩; have x5 : BoxA w5 w.heap.size (.slice none 0 0) ⟨false, 0⟩ false := (hb5.block _ (Nat.lt_of_lt_of_le HS.out.1 hbe.out.size)).trans ((hbe.out.block _ HS.out.1).trans HX3.out); obtain ⟨y1, y2, y3, y4, e1, e2, e3, e4, s0, f0, s1, f1, s2, f2, s3, f3, z4, o4⟩ := chain26 x5 (.slice none 0 0) ⟨false, 0⟩ false; dsimp only at e2 e3 s1 s2)
        have h04 := H03.out.trans (hbe.out.mono (Nat.le_of_lt HS.out.1))
        have h05 := h04.trans (hb5.mono h04.size)
        refine bodyPost_ret (results_read47 (root := ⟨false, 0⟩) (e := 4) z4 (by simp) (by simp)) rfl ?_
        exact ⟨_, rfl, ⟨none, 0, rfl, fun i x hx => by simp [zeroAr] at hx⟩, h05.trans (o4.below _ h05.size (fun b hb h => by omega))⟩
end Go.Proofs.YtklfojmflmablaaGreatDoor
/- Plain: the text of an arena, read back. -/
namespace Go.Proofs.YtklfojmflmablaaGreatDoor
open Go Go.RowKit Go.Shelf

theorem index_sep {c : UInt8} {t p r : List UInt8} (h : c ∉ p) : Lib.index (p ++ ((c :: t) ++ r)) (c :: t) = p.length := by
  refine Lib.index_hit (i := p.length) (fun j hj => ?_) (by simp) ?_
  · cases ho : Lib.occAt (p ++ ((c :: t) ++ r)) (c :: t) j with
    | false => rfl
    | true =>
      have := Lib.occAt_head rfl ho
      rw [List.getElem?_append_left hj] at this
      exact absurd (List.mem_of_getElem? this) h
  · unfold Lib.occAt
    rw [List.drop_left, List.isPrefixOf_iff_prefix]
    exact List.prefix_append _ _
theorem index_miss {c : UInt8} {t p : List UInt8} (h : c ∉ p) : Lib.index p (c :: t) = -1 := by
  refine Lib.index_none fun j hj => ?_
  cases ho : Lib.occAt p (c :: t) j with
  | false => rfl
  | true => exact absurd (List.mem_of_getElem? (Lib.occAt_head rfl ho)) h
theorem cut_hit {s sep : ByteArray} {c : UInt8} {t p r : List UInt8} (hs : s.data.toList = p ++ ((c :: t) ++ r)) (hsep : sep.data.toList = c :: t) (h : c ∉ p) : cut1 s sep = ⟨p.toArray⟩ ∧ cut2 s sep = ⟨r.toArray⟩ ∧ cut3 s sep = true := by
  unfold cut1 cut2 cut3 Lib.cut
  rw [hs, hsep, index_sep h, if_pos (by omega)]
  refine ⟨?_, ?_, rfl⟩
  · simp
  · dsimp only
    rw [show ((p.length : Int)).toNat + (c :: t).length = p.length + (c :: t).length by simp, ← List.drop_drop, List.drop_left, List.drop_left]
theorem cut_miss {s sep : ByteArray} {c : UInt8} {t : List UInt8} (hsep : sep.data.toList = c :: t) (h : c ∉ s.data.toList) : cut1 s sep = s ∧ cut3 s sep = false := by
  unfold cut1 cut3 Lib.cut
  rw [hsep, index_miss h, if_neg (by decide)]
  exact ⟨rfl, rfl⟩
theorem splitK_join {c : UInt8} {t : List UInt8} : ∀ (xs : List (List UInt8)) (k : Nat), xs ≠ [] → xs.length ≤ k + 1 → (∀ x ∈ xs, c ∉ x) → Lib.splitK (c :: t) 0 k (Lib.join xs (c :: t)) = xs
  | [], _, h, _, _ => absurd rfl h
  | [x], k, _, _, hc => by
    have e : Lib.join [x] (c :: t) = x := by rw [Lib.join_cons]; simp [Lib.joinTail]
    rw [e]
    cases k with
    | zero => rfl
    | succ k => unfold Lib.splitK; rw [index_miss (hc x (by simp))]; rfl
  | x :: y :: r, k, _, hk, hc => by
    obtain ⟨k, rfl⟩ : ∃ k', k = k' + 1 := ⟨k - 1, by simp at hk; omega⟩
    have e : Lib.join (x :: y :: r) (c :: t) = x ++ ((c :: t) ++ Lib.join (y :: r) (c :: t)) := by rw [Lib.join_cons, Lib.join_cons]; simp [Lib.joinTail]
    rw [e]
    unfold Lib.splitK
    have hi := index_sep (t := t) (r := Lib.join (y :: r) (c :: t)) (hc x (by simp))
    rw [hi, if_neg (by simp <;> omega)]
    have h1 : (x ++ ((c :: t) ++ Lib.join (y :: r) (c :: t))).take ((x.length : Int).toNat + 0) = x := by simp
    have h2 : (x ++ ((c :: t) ++ Lib.join (y :: r) (c :: t))).drop ((x.length : Int).toNat + (c :: t).length) = Lib.join (y :: r) (c :: t) := by
      rw [show ((x.length : Int)).toNat + (c :: t).length = x.length + (c :: t).length by simp, ← List.drop_drop, List.drop_left, List.drop_left]
    rw [h1, h2, splitK_join (y :: r) k (by simp) (by simp at hk ⊢; omega) (fun z hz => hc z (List.mem_cons_of_mem _ hz))]
theorem data_inj {l m : List ByteArray} (h : l.map (·.data.toList) = m.map (·.data.toList)) : l = m := by
  induction l generalizing m with
  | nil => cases m with
    | nil => rfl
    | cons y m => simp at h
  | cons x l ih =>
    cases m with
    | nil => simp at h
    | cons y m =>
      simp only [List.map_cons, List.cons.injEq] at h
      rw [ih h.2, ByteArray.ext (Array.toList_inj.1 h.1)]
theorem join_len (xs : List (List UInt8)) (c : UInt8) (t : List UInt8) : xs.length ≤ (Lib.join xs (c :: t)).length + 1 := by
  cases xs with
  | nil => simp
  | cons x r =>
    rw [Lib.join_cons, List.length_append, List.length_cons]
    have : ∀ r : List (List UInt8), r.length ≤ (Lib.joinTail (c :: t) r).length := by
      intro r
      induction r with
      | nil => simp
      | cons y r ih =>
        have e : Lib.joinTail (c :: t) (y :: r) = (c :: t) ++ y ++ Lib.joinTail (c :: t) r := by simp [Lib.joinTail]
        rw [e]
        simp at ih ⊢
        omega
    have := this r
    omega
theorem pieces_join {s sep : ByteArray} {c : UInt8} {t : List UInt8} {xs : List ByteArray} (hsep : sep.data.toList = c :: t) (hs : s.data.toList = Lib.join (xs.map (·.data.toList)) (c :: t)) (hne : xs ≠ []) (hc : ∀ x ∈ xs, c ∉ x.data.toList) : pieces s sep = xs := by
  apply data_inj
  unfold pieces
  rw [Lib.splitB_data, hsep, hs, splitK_join]
  · simpa using hne
  · rw [Lib.size_eq, hs]
    exact join_len _ _ _
  · intro x hx
    obtain ⟨y, hy, rfl⟩ := List.mem_map.1 hx
    exact hc y hy

theorem app_data (a b : ByteArray) : (a ++ b).data.toList = a.data.toList ++ b.data.toList := by
  rw [ByteArray.data_append, Array.toList_append]
def LB (b : Bs) : List UInt8 := (if b.cell then [99, 101, 108, 108] else [105, 110, 116]) ++ (([32] : List UInt8) ++ Lib.decDigits b.n.toNat)
theorem base_data (b : Bs) : (baseTx b).data.toList = LB b := by
  unfold baseTx LB
  rw [app_data, app_data]
  cases b.cell <;> simp [numTx]
/-- Bytes that no separator, no bracket and no word 'jumps' has. -/
def calm (c : UInt8) : Prop := c ≠ 40 ∧ c ≠ 41 ∧ c ≠ 44 ∧ c ≠ 59 ∧ c ≠ 106
theorem dg_calm {c : UInt8} (h : isDg c) : calm c := by
  unfold isDg at h
  refine ⟨?_, ?_, ?_, ?_, ?_⟩ <;> (rintro rfl; revert h; decide)
theorem LB_calm (b : Bs) : ∀ c ∈ LB b, calm c := by
  intro c hc
  unfold LB at hc
  rcases List.mem_append.1 hc with hc | hc
  · split at hc
    · simp only [List.mem_cons, List.not_mem_nil, or_false] at hc
      rcases hc with rfl | rfl | rfl | rfl <;> (unfold calm; decide)
    · simp only [List.mem_cons, List.not_mem_nil, or_false] at hc
      rcases hc with rfl | rfl | rfl <;> (unfold calm; decide)
  · rcases List.mem_append.1 hc with hc | hc
    · rw [List.mem_singleton] at hc
      subst hc
      unfold calm
      decide
    · exact dg_calm (dec_dg _ c hc)
theorem okBs_nat {b : Bs} (h : okBs b = true) : 0 ≤ b.n ∧ b.n ≤ 64 := by
  have := okBs_n h
  omega
theorem cellWd_cell : cellWd ⟨#[99, 101, 108, 108]⟩ = true := by unfold cellWd; rw [Lib.toList_data]; rfl
theorem cellWd_int : cellWd ⟨#[105, 110, 116]⟩ = false := by unfold cellWd; rw [Lib.toList_data]; rfl
theorem rdBase_tx {b : Bs} (h : okBs b = true) : rdBase (baseTx b) = b := by
  obtain ⟨h0, h1⟩ := okBs_nat h
  have hn : numOf ⟨(Lib.decDigits b.n.toNat).toArray⟩ = b.n := by rw [num_dec _ (by omega)]; omega
  have hd := base_data b
  unfold LB at hd
  obtain ⟨ce, n⟩ := b
  unfold rdBase
  cases ce with
  | true =>
    obtain ⟨e1, e2, _⟩ := cut_hit (sep := ⟨#[32]⟩) (c := 32) (t := []) (p := [99, 101, 108, 108]) hd rfl (by decide)
    rw [e1, e2, hn, cellWd_cell]
  | false =>
    obtain ⟨e1, e2, _⟩ := cut_hit (sep := ⟨#[32]⟩) (c := 32) (t := []) (p := [105, 110, 116]) hd rfl (by decide)
    rw [e1, e2, hn, cellWd_int]
theorem rfBase_tx {b : Bs} (h : okBs b = true) : rfBase (baseTx b) = b := by
  obtain ⟨h0, h1⟩ := okBs_nat h
  have hn : (digs 0 0 (Lib.decDigits b.n.toNat)).1 = b.n := by
    have := digs_num b.n.toNat (by omega) [] (fun c r e => by cases e)
    rw [List.append_nil] at this
    rw [this]
    show ((b.n.toNat : Nat) : Int) = b.n
    omega
  have hd := base_data b
  unfold LB at hd
  obtain ⟨ce, n⟩ := b
  unfold rfBase
  cases ce with
  | true =>
    rw [if_pos (by unfold begB Lib.hasPrefix; rw [hd]; rfl), drop_data, hd]
    exact congrArg (Bs.mk true) hn
  | false =>
    rw [if_neg (by unfold begB Lib.hasPrefix; rw [hd]; simp [cellP]), if_pos (by unfold begB Lib.hasPrefix; rw [hd]; rfl), drop_data, hd]
    exact congrArg (Bs.mk false) hn
theorem not_of_calm {c : UInt8} {l : List UInt8} (h : ∀ x ∈ l, calm x) (hc : ¬ calm c) : c ∉ l := fun hm => hc (h c hm)

def jnL (ps : List Bs) : List UInt8 := Lib.join (ps.map LB) [44, 32]
theorem jn_data (ps : List Bs) : (jn (ps.map baseTx)).data.toList = jnL ps := by
  unfold jn jnL
  rw [List.map_map, show ((fun x : ByteArray => x.data.toList) ∘ baseTx) = LB from funext base_data]
def LT (t : Ty) : List UInt8 := if t.params = [] then LB t.result else ([40] ++ jnL t.params) ++ (([41, 32, 45, 62, 32] : List UInt8) ++ LB t.result)
theorem type_data (t : Ty) : (typeTx t).data.toList = LT t := by
  unfold typeTx LT
  split
  · exact base_data _
  · rw [app_data, app_data, app_data, jn_data, base_data]
    simp
theorem join_mem {c : UInt8} {sep : List UInt8} : ∀ {xs : List (List UInt8)}, c ∈ Lib.join xs sep → c ∈ sep ∨ ∃ x ∈ xs, c ∈ x
  | [], h => by rw [Lib.join_nil] at h; cases h
  | x :: r, h => by
    rw [Lib.join_cons] at h
    rcases List.mem_append.1 h with h | h
    · exact .inr ⟨x, by simp, h⟩
    · unfold Lib.joinTail at h
      obtain ⟨l, hl, hc⟩ := List.mem_flatten.1 h
      obtain ⟨y, hy, rfl⟩ := List.mem_map.1 hl
      rcases List.mem_append.1 hc with hc | hc
      · exact .inl hc
      · exact .inr ⟨y, List.mem_cons_of_mem _ hy, hc⟩
/-- Bytes that the text of a type may have. -/
def calm2 (c : UInt8) : Prop := c ≠ 59 ∧ c ≠ 106
theorem jnL_calm {ps : List Bs} : ∀ c ∈ jnL ps, c ≠ 40 ∧ c ≠ 41 ∧ calm2 c := by
  intro c hc
  rcases join_mem hc with h | ⟨x, hx, hc⟩
  · simp only [List.mem_cons, List.not_mem_nil, or_false] at h
    rcases h with rfl | rfl <;> (unfold calm2; decide)
  · obtain ⟨b, _, rfl⟩ := List.mem_map.1 hx
    obtain ⟨h1, h2, _, h4, h5⟩ := LB_calm b c hc
    exact ⟨h1, h2, h4, h5⟩
theorem LT_calm (t : Ty) : ∀ c ∈ LT t, calm2 c := by
  intro c hc
  unfold LT at hc
  split at hc
  · obtain ⟨_, _, _, h4, h5⟩ := LB_calm _ c hc
    exact ⟨h4, h5⟩
  · rcases List.mem_append.1 hc with hc | hc
    · rcases List.mem_append.1 hc with hc | hc
      · rw [List.mem_singleton] at hc
        subst hc
        unfold calm2
        decide
      · exact (jnL_calm c hc).2.2
    · rcases List.mem_append.1 hc with hc | hc
      · simp only [List.mem_cons, List.not_mem_nil, or_false] at hc
        rcases hc with rfl | rfl | rfl | rfl | rfl <;> (unfold calm2; decide)
      · obtain ⟨_, _, _, h4, h5⟩ := LB_calm _ c hc
        exact ⟨h4, h5⟩
theorem not_calm41 : ¬ calm 41 := by unfold calm; decide
theorem not_calm44 : ¬ calm 44 := by unfold calm; decide
theorem map_back {f : ByteArray → Bs} {ps : List Bs} (h : ∀ b ∈ ps, f (baseTx b) = b) : (ps.map baseTx).map f = ps := by
  rw [List.map_map]
  conv => rhs; rw [← List.map_id ps]
  exact List.map_congr_left h
theorem okTy_parts {t : Ty} (h : okTy t = true) : okBs t.result = true ∧ ∀ b ∈ t.params, okBs b = true := by
  unfold okTy at h
  simp only [Bool.and_eq_true, List.all_eq_true] at h
  exact h.2
theorem pieces_jn {s : ByteArray} {ps : List Bs} (h : s.data.toList = jnL ps) (hne : ps ≠ []) : pieces s commaB = ps.map baseTx := by
  refine pieces_join (c := 44) (t := [32]) rfl ?_ (by simpa using hne) ?_
  · rw [h, List.map_map, show ((fun x : ByteArray => x.data.toList) ∘ baseTx) = LB from funext base_data]
    rfl
  · intro x hx
    obtain ⟨b, _, rfl⟩ := List.mem_map.1 hx
    rw [base_data]
    exact not_of_calm (LB_calm b) not_calm44
theorem rdType_tx {t : Ty} (h : okTy t = true) : rdType (typeTx t) = t := by
  obtain ⟨hr, hp⟩ := okTy_parts h
  have hd := type_data t
  obtain ⟨ps, r⟩ := t
  dsimp only at hr hp
  unfold LT at hd
  dsimp only at hd
  by_cases hne : ps = []
  · subst hne
    rw [if_pos rfl] at hd
    have e : typeTx ⟨[], r⟩ = baseTx r := by unfold typeTx; rw [if_pos rfl]
    rw [e] at hd ⊢
    have := cut_miss (s := baseTx r) (sep := arrowB) (c := 41) (t := [32, 45, 62, 32]) rfl (by rw [hd]; exact not_of_calm (LB_calm r) not_calm41)
    unfold rdType
    rw [this.2, if_neg (by simp), rdBase_tx hr]
  · rw [if_neg hne] at hd
    obtain ⟨S, hS⟩ : ∃ S, typeTx ⟨ps, r⟩ = S := ⟨_, rfl⟩
    rw [hS] at hd ⊢
    obtain ⟨e1, e2, e3⟩ := cut_hit (sep := arrowB) (c := 41) (t := [32, 45, 62, 32]) hd rfl (by
      intro hm
      rcases List.mem_append.1 hm with hm | hm
      · revert hm; decide
      · exact (jnL_calm _ hm).2.1 rfl)
    unfold rdType
    rw [e3, if_pos rfl, e1, e2]
    have e4 : (⟨(LB r).toArray⟩ : ByteArray) = baseTx r := ByteArray.ext (Array.toList_inj.1 (by rw [base_data]))
    have e5 : pieces (trimP ⟨([40] ++ jnL ps).toArray⟩ ⟨#[40]⟩) commaB = ps.map baseTx := pieces_jn (by
      unfold trimP Lib.trimPrefix
      rw [if_pos (by simp [Lib.hasPrefix])]
      simp) hne
    rw [e4, e5, rdBase_tx hr, map_back (fun b hb => rdBase_tx (hp b hb))]
theorem hd_two (x y : ByteArray) : hd [x, y] = x := rfl
theorem lst_two (x y : ByteArray) : lst [x, y] = y := rfl
theorem rfType_tx {t : Ty} (h : okTy t = true) : rfType (typeTx t) = t := by
  obtain ⟨hr, hp⟩ := okTy_parts h
  have hd := type_data t
  obtain ⟨ps, r⟩ := t
  dsimp only at hr hp
  unfold LT at hd
  dsimp only at hd
  by_cases hne : ps = []
  · subst hne
    rw [if_pos rfl] at hd
    have e : typeTx ⟨[], r⟩ = baseTx r := by unfold typeTx; rw [if_pos rfl]
    rw [e] at hd ⊢
    have hpc : pieces (baseTx r) arrowB = [baseTx r] := pieces_join (c := 41) (t := [32, 45, 62, 32]) rfl (by rw [List.map_singleton, Lib.join_one]) (by simp) (by
      intro x hx
      rw [List.mem_singleton] at hx
      subst hx
      rw [hd]
      exact not_of_calm (LB_calm r) not_calm41)
    unfold rfType
    rw [hpc]
    have hbg : begB (baseTx r) ⟨#[40]⟩ = false := by
      unfold begB Lib.hasPrefix
      rw [hd]
      unfold LB
      split <;> rfl
    rw [hbg, if_neg (by simp)]
    show Ty.mk [] (rfBase (baseTx r)) = _
    rw [rfBase_tx hr]
  · rw [if_neg hne] at hd
    obtain ⟨S, hS⟩ : ∃ S, typeTx ⟨ps, r⟩ = S := ⟨_, rfl⟩
    rw [hS] at hd ⊢
    obtain ⟨P, hP⟩ : ∃ P : ByteArray, P.data.toList = [40] ++ jnL ps := ⟨⟨([40] ++ jnL ps).toArray⟩, by simp⟩
    have hpc : pieces S arrowB = [P, baseTx r] := pieces_join (c := 41) (t := [32, 45, 62, 32]) rfl (by
        rw [hd, List.map_cons, List.map_singleton, Lib.join_cons, base_data, hP]
        simp [Lib.joinTail]) (by simp) (by
      intro x hx
      simp only [List.mem_cons, List.not_mem_nil, or_false] at hx
      rcases hx with rfl | rfl
      · rw [hP]
        intro hm
        rcases List.mem_append.1 hm with hm | hm
        · revert hm; decide
        · exact (jnL_calm _ hm).2.1 rfl
      · rw [base_data]
        exact not_of_calm (LB_calm r) not_calm41)
    have hbg : begB S ⟨#[40]⟩ = true := by
      unfold begB Lib.hasPrefix
      rw [hd]
      rfl
    have h1 := hd_two P (baseTx r)
    have h2 := lst_two P (baseTx r)
    have e5 : pieces (P.extract 1 P.size) commaB = ps.map baseTx := pieces_jn (by
      rw [drop_data, hP]
      rfl) hne
    unfold rfType
    rw [hpc, hbg, if_pos rfl, h1, h2, rfBase_tx hr, e5, map_back (fun b hb => rfBase_tx (hp b hb))]

theorem showRes_ok {a : Ar} (h : checkRes a = 0) : showRes a = (arTx typeTx a, 0) := by
  unfold showRes
  rw [if_neg (by rw [h]; simp)]
theorem showRes_zero {a : Ar} (h : (showRes a).2 = 0) : checkRes a = 0 := by
  unfold showRes at h
  split at h
  · exact h
  · rename_i h2
    exact Decidable.not_not.1 h2
theorem okAr_parts {a : Ar} (h : checkRes a = 0) : okBs a.root = true ∧ ∀ t ∈ a.ids, okTy t = true := by
  obtain ⟨_, hr, hok⟩ := check_small h
  exact ⟨hr, hok⟩
def wordL : List UInt8 := [106, 117, 109, 112, 115]
def wordB : ByteArray := ⟨#[106, 117, 109, 112, 115]⟩
theorem strs_data (T : ByteArray) (l : List ByteArray) : (strs T l).data.toList = Lib.join ((T :: l).map (·.data.toList)) [59, 32] := by
  unfold strs
  simp
/-- The pieces of the text of an arena. -/
theorem arTx_data (a : Ar) : (arTx typeTx a).data.toList = Lib.join ((baseTx a.root :: (a.ids.map typeTx ++ if a.jumps then [wordB] else [])).map (·.data.toList)) [59, 32] := by
  unfold arTx
  split
  · rw [app_data, strs_data, List.map_cons, List.map_cons, Lib.join_cons, Lib.join_cons, List.map_append, Lib.joinTail, Lib.joinTail, List.map_append, List.flatten_append, List.append_assoc]
    rfl
  · rw [strs_data, List.append_nil]
theorem piece_calm {a : Ar} {x : ByteArray} (hx : x ∈ baseTx a.root :: a.ids.map typeTx) : ∀ c ∈ x.data.toList, calm2 c := by
  rcases List.mem_cons.1 hx with rfl | hx
  · intro c hc
    rw [base_data] at hc
    obtain ⟨_, _, _, h4, h5⟩ := LB_calm _ c hc
    exact ⟨h4, h5⟩
  · obtain ⟨t, _, rfl⟩ := List.mem_map.1 hx
    intro c hc
    rw [type_data] at hc
    exact LT_calm t c hc

theorem types_back {f : ByteArray → Ty} {l : List Ty} (h : ∀ t ∈ l, f (typeTx t) = t) : (l.map typeTx).map f = l := by
  rw [List.map_map]
  conv => rhs; rw [← List.map_id l]
  exact List.map_congr_left h
theorem no59 {l : List UInt8} (h : ∀ c ∈ l, calm2 c) : (59 : UInt8) ∉ l := fun hm => (h _ hm).1 rfl
theorem no106 {l : List UInt8} (h : ∀ c ∈ l, calm2 c) : (106 : UInt8) ∉ l := fun hm => (h _ hm).2 rfl
theorem lst_cat (x w : ByteArray) (l : List ByteArray) : lst (x :: (l ++ [w])) = w := by
  unfold lst
  rw [List.getLastD_eq_getLast?, ← List.cons_append, List.getLast?_append]
  rfl
theorem lst_in {l : List ByteArray} (h : l ≠ []) : lst l ∈ l := (lst_mem (m := l.length - 1) (by have := List.length_pos_iff.2 h; omega)).1
theorem rfArena_tx {a : Ar} (h : checkRes a = 0) : rfArena (arTx typeTx a) = a := by
  obtain ⟨hr, hok⟩ := okAr_parts h
  have hb : (a.ids.map typeTx).map rfType = a.ids := types_back fun t ht => rfType_tx (hok t ht)
  have hpc : pieces (arTx typeTx a) semiB = baseTx a.root :: (a.ids.map typeTx ++ if a.jumps then [wordB] else []) := by
    refine pieces_join (c := 59) (t := [32]) rfl (arTx_data a) (by simp) fun x hx => ?_
    rw [← List.cons_append] at hx
    rcases List.mem_append.1 hx with hx | hx
    · exact no59 (piece_calm hx)
    · split at hx
      · rw [List.mem_singleton] at hx
        subst hx
        decide
      · cases hx
  unfold rfArena
  rw [hpc]
  have hcalm := fun x (hx : x ∈ baseTx a.root :: a.ids.map typeTx) => piece_calm hx
  obtain ⟨ids, root, ju⟩ := a
  dsimp only at hr hb hcalm ⊢
  cases ju with
  | true =>
    have hj : rfJ (baseTx root :: (ids.map typeTx ++ if true = true then [wordB] else [])) = true := by
      unfold rfJ
      rw [if_pos rfl, lst_cat, decide_eq_true (by simp), Bool.true_and, Lib.toList_data]
      rfl
    have ht : rfT (baseTx root :: (ids.map typeTx ++ if true = true then [wordB] else [])) = ids.map typeTx := by
      unfold rfT
      rw [hj, if_pos rfl, if_pos rfl, List.tail_cons, List.dropLast_concat]
    rw [hj, ht, hb]
    exact congrArg (fun b => Ar.mk ids b true) (rfBase_tx hr)
  | false =>
    have e : (baseTx root :: (ids.map typeTx ++ if false = true then [wordB] else [])) = baseTx root :: ids.map typeTx := by simp
    rw [e]
    have hj : rfJ (baseTx root :: ids.map typeTx) = false := by
      cases hj : rfJ (baseTx root :: ids.map typeTx) with
      | false => rfl
      | true =>
        unfold rfJ at hj
        simp only [Bool.and_eq_true, beq_iff_eq] at hj
        have h1 := hcalm _ (lst_in (by simp))
        rw [Lib.toList_data] at hj
        rw [hj.2] at h1
        exact absurd (by decide) (no106 h1)
    have ht : rfT (baseTx root :: ids.map typeTx) = ids.map typeTx := by
      unfold rfT
      rw [hj, if_neg (by simp), List.tail_cons]
    rw [hj, ht, hb]
    exact congrArg (fun b => Ar.mk ids b false) (rfBase_tx hr)

theorem suffix_data (s p : ByteArray) (l : List UInt8) (h : s.data.toList = l ++ p.data.toList) : hasS s p = true ∧ trimS s p = ⟨l.toArray⟩ := by
  have h1 : Lib.hasSuffix s.data.toList p.data.toList = true := by
    unfold Lib.hasSuffix
    rw [List.isSuffixOf_iff_suffix, h]
    exact List.suffix_append _ _
  refine ⟨h1, ?_⟩
  unfold trimS Lib.trimSuffix
  rw [if_pos h1, h]
  simp
theorem suffix_none {s p : ByteArray} {c : UInt8} (hc : c ∈ p.data.toList) (hs : c ∉ s.data.toList) : hasS s p = false ∧ trimS s p = s := by
  have h1 : Lib.hasSuffix s.data.toList p.data.toList = false := by
    cases h : Lib.hasSuffix s.data.toList p.data.toList with
    | false => rfl
    | true =>
      unfold Lib.hasSuffix at h
      exact absurd ((List.isSuffixOf_iff_suffix.1 h).subset hc) hs
  refine ⟨h1, ?_⟩
  unfold trimS Lib.trimSuffix
  rw [if_neg (by rw [h1]; simp)]
theorem back_data (x : ByteArray) : (⟨x.data.toList.toArray⟩ : ByteArray) = x := ByteArray.ext (by simp)
theorem rdArena_tx {a : Ar} (h : checkRes a = 0) : rdArena (arTx typeTx a) = a := by
  obtain ⟨hr, hok⟩ := okAr_parts h
  have hb : (a.ids.map typeTx).map rdType = a.ids := types_back fun t ht => rdType_tx (hok t ht)
  have hcalm := fun x (hx : x ∈ baseTx a.root :: a.ids.map typeTx) => piece_calm hx
  obtain ⟨S0, hS0⟩ : ∃ S0, strs (baseTx a.root) (a.ids.map typeTx) = S0 := ⟨_, rfl⟩
  have hd0 : S0.data.toList = Lib.join ((baseTx a.root :: a.ids.map typeTx).map (·.data.toList)) [59, 32] := by rw [← hS0]; exact strs_data _ _
  have hsuf : hasS (arTx typeTx a) jumpsB = a.jumps ∧ trimS (arTx typeTx a) jumpsB = S0 := by
    unfold arTx
    rw [hS0]
    cases a.jumps with
    | true =>
      rw [if_pos rfl]
      obtain ⟨h1, h2⟩ := suffix_data (S0 ++ jmp) jumpsB S0.data.toList (app_data _ _)
      exact ⟨h1, h2.trans (back_data _)⟩
    | false =>
      rw [if_neg (by simp)]
      refine suffix_none (c := 106) (by decide) ?_
      rw [hd0]
      intro hm
      rcases join_mem hm with hm | ⟨l, hl, hm⟩
      · revert hm; decide
      · obtain ⟨x, hx, rfl⟩ := List.mem_map.1 hl
        exact no106 (hcalm x hx) hm
  unfold rdArena
  rw [hsuf.1, hsuf.2]
  obtain ⟨ids, root, ju⟩ := a
  dsimp only at hr hb hcalm hd0 hok ⊢
  have h59 : (59 : UInt8) ∉ (baseTx root).data.toList := no59 (hcalm _ (by simp))
  cases ids with
  | nil =>
    have e0 : S0 = baseTx root := ByteArray.ext (Array.toList_inj.1 (by rw [hd0, List.map_nil, List.map_singleton, Lib.join_one]))
    rw [e0]
    obtain ⟨e1, e3⟩ := cut_miss (s := baseTx root) (sep := semiB) (c := 59) (t := [32]) rfl h59
    rw [e1, e3, if_neg (by simp), rdBase_tx hr]
  | cons t r =>
    have hd1 : S0.data.toList = (baseTx root).data.toList ++ (([59, 32] : List UInt8) ++ Lib.join (((t :: r).map typeTx).map (·.data.toList)) [59, 32]) := by
      rw [hd0, List.map_cons, List.map_cons, List.map_cons, Lib.join_cons, Lib.join_cons]
      simp [Lib.joinTail]
    obtain ⟨e1, e2, e3⟩ := cut_hit (sep := semiB) (c := 59) (t := [32]) hd1 rfl h59
    rw [e1, e2, e3, if_pos rfl, back_data, rdBase_tx hr]
    have hpc : pieces ⟨(Lib.join (((t :: r).map typeTx).map (·.data.toList)) [59, 32]).toArray⟩ semiB = (t :: r).map typeTx := pieces_join (c := 59) (t := [32]) rfl (by simp) (by simp) (fun x hx => no59 (hcalm x (List.mem_cons_of_mem _ hx)))
    rw [hpc, hb]

/-- Both read the same. -/
theorem read_eq (s : ByteArray) : rfR s = readR s := by
  unfold rfR readR
  by_cases h : ∃ a, checkRes a = 0 ∧ arTx typeTx a = s
  · obtain ⟨a, hck, rfl⟩ := h
    rw [rdArena_tx hck, rfArena_tx hck]
  · have no : ∀ a, ¬ ((showRes a).2 = 0 ∧ (showRes a).1 = s) := fun a ha => by
      have hck := showRes_zero ha.1
      rw [showRes_ok hck] at ha
      exact h ⟨a, hck, ha.2⟩
    rw [if_neg (no _), if_neg (no _)]
theorem readR_tx {a : Ar} (h : checkRes a = 0) : readR (arTx typeTx a) = (a, 0) := by
  unfold readR
  rw [rdArena_tx h, showRes_ok h, if_pos ⟨rfl, rfl⟩]
end Go.Proofs.YtklfojmflmablaaGreatDoor
/- ArenaReads. -/
namespace Go.Proofs.YtklfojmflmablaaGreatDoor
open Go Go.RowKit Go.Shelf

theorem readR_ids (s : ByteArray) : (readR s).1.ids.length ≤ s.size + 1 ∧ ∀ t ∈ (readR s).1.ids, t.params.length ≤ s.size + 1 := by
  unfold readR
  split
  · exact ⟨rdArena_ids s, rdArena_params s⟩
  · exact ⟨Nat.zero_le _, fun t ht => by cases ht⟩

set_option maxRecDepth 100000 in
set_option maxHeartbeats 1000000 in
theorem law8_long (s : ByteArray) (w : World) (h : Laid w) (hs : 800 < s.size) :
    Calls Tryz.prog 8 #[.string s] w fun e w' => e = .returned (.bool true) ∧ Below w.heap.size w w' := by
  have HLD := Lib.hid h
  have i1 : (800 : Int) < (s.size : Int) := by omega
  clear h
  go_enter Tryz.func8, Tryz.ntmps8
  go_wp2_with (go_at_call 18; refine (awake_any _ HLD.out).mono ?_; rintro e w3 ⟨rfl, hb3⟩)
  go_ret
  exact ⟨rfl, hb3⟩

set_option maxRecDepth 100000 in
set_option maxHeartbeats 2000000 in
theorem law8_short (s : ByteArray) (w : World) (h : Laid w) (hs : s.size ≤ 800) :
    Calls Tryz.prog 8 #[.string s] w fun e w' => e = .returned (.bool true) ∧ Below w.heap.size w w' := by
  obtain ⟨hl, hp⟩ := readR_ids s
  have HLD := Lib.hid h
  have C46 : Hid (∀ W, Laid W → Calls Tryz.prog 46 #[.string s] W fun e w' => ∃ A n c, e = .returned (.tuple #[arV (.slice A n c) (readR s).1.root (readR s).1.jumps, .int .i64 (readR s).2]) ∧ Hid (TyIn w' w'.heap.size (.slice A n c) (readR s).1.ids) ∧ Below W.heap.size W w') := Lib.hid fun W hW => by
    refine (read_any s W hs hW).mono ?_
    rintro e w' ⟨v, rfl, hv, hb⟩
    obtain ⟨A, c, rfl, _⟩ := id hv
    exact ⟨A, _, c, rfl, Lib.hid hv, hb⟩
  have C47 : Hid (∀ W, Calls Tryz.prog 47 #[.string s] W fun e w' => ∃ A n c, e = .returned (.tuple #[arV (.slice A n c) (readR s).1.root (readR s).1.jumps, .int .i64 (readR s).2]) ∧ Hid (TyIn w' w'.heap.size (.slice A n c) (readR s).1.ids) ∧ Below W.heap.size W w') := Lib.hid fun W => by
    refine (refRead_any s W hs).mono ?_
    rw [read_eq]
    rintro e w' ⟨v, rfl, hv, hb⟩
    obtain ⟨A, c, rfl, _⟩ := id hv
    exact ⟨A, _, c, rfl, Lib.hid hv, hb⟩
  have CS : Hid (∀ W v v', TyIn W W.heap.size v (readR s).1.ids → TyIn W W.heap.size v' (readR s).1.ids → Calls Tryz.prog 27 #[arV v (readR s).1.root (readR s).1.jumps, arV v' (readR s).1.root (readR s).1.jumps] W fun e w' => e = .returned (.bool true) ∧ Below W.heap.size W w') := Lib.hid fun W v v' h1 h2 =>
    same_any v v' (readR s).1 W (by omega) (fun t ht => by have := hp t ht; omega) h1 h2
  obtain ⟨⟨⟨ids, b, ju⟩, r⟩, hR⟩ : ∃ R, readR s = R := ⟨_, rfl⟩
  rw [hR] at C46 C47 CS
  dsimp only at C46 C47 CS
  unfold arV at C46 C47 CS
  have i1 : ¬ ((800 : Int) < (s.size : Int)) := by omega
  have hrr : (r == r) = true := by simp
  clear h hs hl hp hR
  go_enter Tryz.func8, Tryz.ntmps8
  go_wp2_with (first
    | (go_at_call 46; (refine (C46.out _ HLD.out).mono ?_); rintro e w2 ⟨A, n, c, rfl, HT, hb2⟩; obtain ⟨z2, hz2⟩ : ∃ z2, w2.alloc (.cells #[.slice A n c, .bool b.cell, .int .i64 b.n, .bool ju] 26) = z2 := ⟨_, rfl⟩; have h2z : Below w2.heap.size w2 z2 := hz2 ▸ (Below.refl _ w2).alloc (Nat.le_refl _) _; have HB2 : Hid (Below w.heap.size w z2) := Lib.hid (hb2.trans (h2z.mono hb2.size)); have HZ2 : Hid (BoxA z2 w2.heap.size (.slice A n c) b ju) := Lib.hid (by rw [← hz2]; exact World.alloc_heap_new w2 _); have HT2 : Hid (TyIn z2 z2.heap.size (.slice A n c) ids) := Lib.hid ((HT.out.below h2z.block).more h2z.size); clear HT h2z)
    | (go_at_call 47; (refine (C47.out _).mono ?_); rintro e w3 ⟨A', n', c', rfl, HT', hb3⟩; obtain ⟨z3, hz3⟩ : ∃ z3, w3.alloc (.cells #[.slice A' n' c', .bool b.cell, .int .i64 b.n, .bool ju] 26) = z3 := ⟨_, rfl⟩; have h3z : Below w3.heap.size w3 z3 := hz3 ▸ (Below.refl _ w3).alloc (Nat.le_refl _) _; have h23 : Below z2.heap.size z2 z3 := hb3.trans (h3z.mono hb3.size); have HB3 : Hid (Below w.heap.size w z3) := Lib.hid (HB2.out.trans (h23.mono HB2.out.size)); have q2 : BoxA z3 w2.heap.size (.slice A n c) b ju := (h23.block _ HZ2.out.lt).trans HZ2.out; have q3 : BoxA z3 w3.heap.size (.slice A' n' c') b ju := (by rw [← hz3]; exact World.alloc_heap_new w3 _);
        have HT3 : Hid (TyIn z3 z3.heap.size (.slice A' n' c') ids) := Lib.hid ((HT'.out.below h3z.block).more h3z.size); have HT4 : Hid (TyIn z3 z3.heap.size (.slice A n c) ids) := Lib.hid ((HT2.out.below h23.block).more h23.size); clear HT' h3z; have d0 := cell_of_row z3 _ 0 _ 26 (0, 0) q2; have d1 := cell_of_row z3 _ 1 _ 26 (0, 0) q2; have d2 := cell_of_row z3 _ 2 _ 26 (0, 0) q2; have d3 := cell_of_row z3 _ 3 _ 26 (0, 0) q2; have e0 := cell_of_row z3 _ 0 _ 26 (0, 0) q3; have e1 := cell_of_row z3 _ 1 _ 26 (0, 0) q3; have e2 := cell_of_row z3 _ 2 _ 26 (0, 0) q3; have e3 := cell_of_row z3 _ 3 _ 26 (0, 0) q3)
    | (go_at_call 27; (refine (CS.out _ _ _ HT4.out HT3.out).mono ?_); rintro e w4 ⟨rfl, hb4⟩; have HB4 := Lib.hid (HB3.out.trans (hb4.mono HB3.out.size)))
    | (go_at_call 18; refine (awake_any _ (HLD.out.later HB4.out)).mono ?_; rintro e w6 ⟨rfl, hb6⟩))
  go_ret
  exact ⟨rfl, HB4.out.trans (hb6.mono HB4.out.size)⟩

theorem law8_any (s : ByteArray) (w : World) (h : Laid w) : Calls Tryz.prog 8 #[.string s] w fun e w' => e = .returned (.bool true) ∧ Below w.heap.size w w' := by
  by_cases hs : 800 < s.size
  · exact law8_long s w h hs
  · exact law8_short s w h (by omega)
end Go.Proofs.YtklfojmflmablaaGreatDoor
