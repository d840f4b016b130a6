/- The third layer: Tokens, Notes, the builder, places, what is applied, spots, of package lex. -/
import Derived.Shelf.Strings.BuilderK
import Derived.Test.YtjadjmkbjolklaaGreatDoorShelf
import Derived.Test.YtjadjmkbjolklaaGreatDoorMid
import Derived.Test.YtjadjmkbjolklaaGreatDoorBase
import Derived.BigQuiet
import Derived.Deep.QuietTactic
import Derived.Deep.RegionWith
namespace Go.Proofs.YtjadjmkbjolklaaGreatDoor
open Go.RowKit Go.Shelf

theorem sizeBuilder : (Tryz.prog.info? 63).map (·.size) = some 2 := by kernel_rfl
theorem infoByte : (Tryz.prog.info? 5).map (fun i => (i.zero, i.size, i.bytes)) = some (some (.int .u8 0), 1, 1) := by kernel_rfl
theorem liesBuilder : liesAt Tryz.prog Tryz.prog.depth 63 (2 / Tryz.prog.cellsOf 63) 0 63 1 = true := by kernel_rfl

set_option maxHeartbeats 1000000 in
set_option maxRecDepth 100000 in
theorem copyCheck_used (b : Nat) (w : World) (h0 : w.cell? ⟨b, 0, none⟩ = some (.pointer (some ⟨b, 0, none⟩))) :
    Calls Tryz.prog 56 #[.pointer (some ⟨b, 0, none⟩)] w fun e w' => e = .returned (.tuple #[]) ∧ w' = w := by
  obtain ⟨j, hj, _⟩ := Option.map_eq_some_iff.1 sizeBuilder
  go_enter Tryz.func56, Tryz.ntmps56
  go_wp2
  rw [Lib.run_neq_ptr_same w _ Tryz.underlying60 hj]
  go_wp2
  go_end0
  exact ⟨rfl, rfl⟩

set_option maxHeartbeats 1000000 in
set_option maxRecDepth 100000 in
theorem copyCheck_fresh (b : Nat) (w : World) (h0 : w.cell? ⟨b, 0, none⟩ = some (.pointer none)) (hsh : w.shape? b = some (63, 2)) (hfz : w.frozen? ⟨b, 0, none⟩ = false) :
    Calls Tryz.prog 56 #[.pointer (some ⟨b, 0, none⟩)] w fun e w' => e = .returned (.tuple #[]) ∧ w' = w.setCell ⟨b, 0, none⟩ (.pointer (some ⟨b, 0, none⟩)) := by
  obtain ⟨j, hj, hjs⟩ := Option.map_eq_some_iff.1 sizeBuilder
  go_enter Tryz.func56, Tryz.ntmps56
  go_wp2
  rw [Lib.run_to_unsafe w ⟨b, 0, none⟩ Tryz.underlying60 Tryz.underlying110 hj (by rw [hjs]; decide) hsh (Nat.zero_lt_succ 1)]
  simp only [Result.andThen]
  rw [Oper.upon_value]
  go_wp2
  rw [run_callFunc_extern Tryz.func66 (by kernel_rfl) (by kernel_rfl) (by kernel_rfl) (e := Extern.AbiNoEscape.same) (by kernel_rfl)]
  rw [Lib.run_noEscape]
  simp only [Result.andThen]
  rw [Oper.upon_value]
  go_wp2
  rw [Lib.run_from_unsafe w ⟨b, 0, none⟩ Tryz.underlying110 Tryz.underlying60 hj hsh liesBuilder]
  simp only [Result.andThen]
  rw [Oper.upon_value]
  go_wp2
  go_end0
  exact ⟨rfl, rfl⟩

theorem copyCheck_any (B b : Nat) (bs : List Value) (w : World) (h : Lib.IsBuilderF 63 5 B b bs w) :
    Calls Tryz.prog 56 #[.pointer (some ⟨b, 0, none⟩)] w fun e w' => e = .returned (.tuple #[]) ∧ (Lib.BuilderAtF 63 5 B b (.pointer (some ⟨b, 0, none⟩)) bs w' ∧ Below B w w' ∧ Lib.OthersKept 5 (some b) w w') := by
  rcases h with h | h
  · refine (copyCheck_fresh b w h.cell0 h.shape h.frozen0).mono ?_
    rintro e w' ⟨rfl, rfl⟩
    exact ⟨rfl, h.used _, (Below.refl B w).setCell (p := ⟨b, 0, none⟩) h.1 _, (Lib.OthersKept.refl _ _ w).setCell ⟨b, 0, none⟩ rfl _⟩
  · refine (copyCheck_used b w h.cell0).mono ?_
    rintro e w' ⟨rfl, rfl⟩
    exact ⟨rfl, h, Below.refl B _, Lib.OthersKept.refl _ _ _⟩

set_option maxHeartbeats 2000000 in
set_option maxRecDepth 100000 in
theorem writeString_any (B b : Nat) (bs : List Value) (s : ByteArray) (w : World) (h : Lib.IsBuilderF 63 5 B b bs w) (hlen : bs.length + s.size ≤ 140737488355328) (hBw : B ≤ w.heap.size) :
    Calls Tryz.prog 24 #[.pointer (some ⟨b, 0, none⟩), .string s] w fun e w' => e = .returned (.tuple #[.int .i64 s.size, .nilIface]) ∧ (Lib.BuilderAtF 63 5 B b (.pointer (some ⟨b, 0, none⟩)) (bs ++ Lib.strCells s) w' ∧ Below B w w' ∧ Lib.OthersKept 5 (some b) w w') := by
  obtain ⟨i0, hi, hz0, hz1, hz2⟩ := info_parts infoByte
  go_enter Tryz.func24, Tryz.ntmps24
  go_wp2_with (go_at_call 56; refine (copyCheck_any B b bs _ h).mono ?_)
  rintro e w1 ⟨rfl, h1, hb1, hk1⟩
  obtain ⟨hB, v, hbk, hown, hne⟩ := h1
  have c0 : w1.cell? ⟨b, 0, none⟩ = some (.pointer (some ⟨b, 0, none⟩)) := by rw [Lib.cell_of_heap hbk]; rfl
  have c1 : w1.cell? ⟨b, 1, none⟩ = some v := by rw [Lib.cell_of_heap hbk]; rfl
  go_wp2_with (at_builtin; refine Lib.wpList_append_own_stringF _ rfl _ _ 61 9 rfl B 5 i0 Tryz.underlying61 Tryz.underlying9 hi hz0 hz1 hz2 _ _ _ rfl hown s rfl ?c3 ?c4 ?c5 ?_)
  case c3 => unfold maxLen; omega
  case c4 => omega
  case c5 => have := hb1.size; omega
  intro v' w2 hown' hgrow _
  have hlt : b < w1.heap.size := by
    rcases Nat.lt_or_ge b w1.heap.size with h' | h'
    · exact h'
    · simp [Array.getElem?_eq_none h'] at hbk
  have hb2 : w2.heap[b]? = some (.cells #[.pointer (some ⟨b, 0, none⟩), v] 63 (0, 0)) := by
    rw [hgrow.block b hlt (fun e => hne e.symm)]
    exact hbk
  have d0 : w2.cell? ⟨b, 0, none⟩ = some (.pointer (some ⟨b, 0, none⟩)) := by rw [Lib.cell_of_heap hb2]; rfl
  have d1 : w2.cell? ⟨b, 1, none⟩ = some v := by rw [Lib.cell_of_heap hb2]; rfl
  have f1 : w2.frozen? ⟨b, 1, none⟩ = false := Lib.frozen_of_heap hb2 1
  obtain ⟨ao, n', cap, rfl⟩ : ∃ ao n' cap, v' = .slice ao n' cap := by
    rcases hown'.2 with ⟨hv, _⟩ | ⟨g, cap, cur, fz, hv, _⟩
    · exact ⟨_, _, _, hv⟩
    · exact ⟨_, _, _, hv⟩
  go_wp2
  go_ret2
  refine ⟨rfl, ?_, ?_, (hk1.grown hgrow (Lib.ownsRowF_kind hown)).setCell ⟨b, 1, none⟩ rfl _⟩
  · exact Lib.BuilderAtF.put (T := 63) (e := 5) hB hb2 (bs' := bs ++ Lib.strCells s) (by simpa [Lib.strCells_length] using hown') (by decide)
  · exact (hb1.grown hgrow (by have := hb1.size; omega) (fun k hk => (hown.lt k hk).1)).setCell (p := ⟨b, 1, none⟩) hB _

set_option maxHeartbeats 2000000 in
set_option maxRecDepth 100000 in
theorem writeByte_any (B b : Nat) (bs : List Value) (c : Int) (w : World) (h : Lib.IsBuilderF 63 5 B b bs w) (hlen : bs.length + 1 ≤ 140737488355328) (hBw : B ≤ w.heap.size) :
    Calls Tryz.prog 23 #[.pointer (some ⟨b, 0, none⟩), .int .u8 c] w fun e w' => e = .returned .nilIface ∧ (Lib.BuilderAtF 63 5 B b (.pointer (some ⟨b, 0, none⟩)) (bs ++ [.int .u8 c]) w' ∧ Below B w w' ∧ Lib.OthersKept 5 (some b) w w') := by
  obtain ⟨i0, hi, hz0, hz1, hz2⟩ := info_parts infoByte
  go_enter Tryz.func23, Tryz.ntmps23
  go_wp2_with (go_at_call 56; refine (copyCheck_any B b bs _ h).mono ?_)
  rintro e w1 ⟨rfl, h1, hb1, hk1⟩
  obtain ⟨hB, v, hbk, hown, hne⟩ := h1
  have c0 : w1.cell? ⟨b, 0, none⟩ = some (.pointer (some ⟨b, 0, none⟩)) := by rw [Lib.cell_of_heap hbk]; rfl
  have c1 : w1.cell? ⟨b, 1, none⟩ = some v := by rw [Lib.cell_of_heap hbk]; rfl
  go_wp2_with (at_builtin; refine wpList_append_ownF _ rfl _ _ 61 rfl B 5 i0 (.int .u8 0) 1 1 Tryz.underlying61 hi hz0 hz1 hz2 rfl (by decide) _ _ _ rfl (hown.alloc _) ⟨w1.heap.size, 0, none⟩ 1 1 [.int .u8 c] rfl rfl ?c1 ?c2 ?c3 ?c4 ?c5 ?_)
  case c1 =>
    intro j u hj
    match j, hj with
    | 0, hj => simp at hj; subst hj; simp [Addr.add]
  case c2 => intro u hu; simp at hu; subst hu; rfl
  case c3 => unfold maxLen; omega
  case c4 => omega
  case c5 => have := hb1.size; simp; omega
  intro v' w2 hown' hgrow _
  have hlt : b < w1.heap.size := by
    rcases Nat.lt_or_ge b w1.heap.size with h' | h'
    · exact h'
    · simp [Array.getElem?_eq_none h'] at hbk
  have hb2 : w2.heap[b]? = some (.cells #[.pointer (some ⟨b, 0, none⟩), v] 63 (0, 0)) := by
    rw [hgrow.block b (by simp; omega) (fun e => hne e.symm), Lib.alloc_old w1 _ b hlt]
    exact hbk
  have d0 : w2.cell? ⟨b, 0, none⟩ = some (.pointer (some ⟨b, 0, none⟩)) := by rw [Lib.cell_of_heap hb2]; rfl
  have d1 : w2.cell? ⟨b, 1, none⟩ = some v := by rw [Lib.cell_of_heap hb2]; rfl
  have f1 : w2.frozen? ⟨b, 1, none⟩ = false := Lib.frozen_of_heap hb2 1
  obtain ⟨g, cap, rfl⟩ : ∃ g cap, v' = .slice (some ⟨g, 0, none⟩) (bs.length + 1) cap := by
    rcases hown'.2 with ⟨_, h0⟩ | ⟨g, cap, cur, fz, hv, _⟩
    · omega
    · exact ⟨g, cap, hv⟩
  go_wp2
  go_ret
  refine ⟨rfl, ?_, ?_, ((hk1.alloc _).grown hgrow (Lib.ownsRowF_kind (hown.alloc _))).setCell ⟨b, 1, none⟩ rfl _⟩
  · exact Lib.BuilderAtF.put (T := 63) (e := 5) hB hb2 (bs' := bs ++ [.int .u8 c]) (by simpa using hown') (by decide)
  · exact ((hb1.alloc (by have := hb1.size; omega) _).grown hgrow (by have := hb1.size; simp; omega) (fun k hk => (hown.lt k hk).1)).setCell (p := ⟨b, 1, none⟩) hB _

end Go.Proofs.YtjadjmkbjolklaaGreatDoor
namespace Go.Proofs.YtjadjmkbjolklaaGreatDoor
open Go.RowKit

def planAnyRes (s : ByteArray) (l : List Spl) : List Chg × Int :=
  if (textErr s).2 ≠ 0 then ([], (textErr s).2) else if splErr s l ≠ 0 then ([], splErr s l) else planRes s l

theorem splErr_ok {s : ByteArray} {l : List Spl} (h : splErr s l = 0) : l.length ≤ 40 ∧ splRight s.size 0 l = true ∧ splBad l = false := by
  unfold splErr at h
  split at h
  · cases h
  · split at h
    · cases h
    · split at h
      · cases h
      · exact ⟨by omega, by simpa using ‹¬ splRight s.size 0 l = false›, by simpa using ‹¬ splBad l = true›⟩

theorem row_less {W : World} {n₀ n₁ : Nat} {e : TypeId} {size k : Nat} {v : Value} {xs : List Value} (h : W.ownsRow n₀ e size v k xs) (hn : n₁ ≤ n₀) : W.ownsRow n₁ e size v k xs := by
  refine ⟨h.1, ?_⟩
  rcases h.2 with h2 | ⟨g, cap, cur, rfl, hb, hr⟩
  · exact .inl h2
  · exact .inr ⟨g, cap, cur, rfl, by omega, hr⟩

set_option maxRecDepth 100000 in
set_option maxHeartbeats 1000000 in
theorem planAny_any (s : ByteArray) (v : Value) (l : List Spl) (w : World) (hs : s.size ≤ 140737488355328) (hl : l.length ≤ 140737488355328) (ht : ∀ x ∈ l, x.text.size ≤ 140737488355328) (hv : SplIn w w.heap.size v l) :
    Calls Tryz.prog 28 #[.string s, v] w fun e w' => ∃ v', e = .returned (.tuple #[v', .int .i64 (planAnyRes s l).2]) ∧ Below w.heap.size w w' ∧ w'.ownsRow w.heap.size 79 5 v' (planAnyRes s l).1.length (chgCells (planAnyRes s l).1) := by
  have HV := Lib.hid hv
  have HT := Lib.hid ht
  obtain ⟨A, c, rfl, _⟩ := hv
  clear ht
  have hl1 : l.length + 0 ≤ 140737488355328 := hl
  by_cases he : (textErr s).2 = 0
  · have HE := Lib.hid he
    have heb : ((textErr s).2 != 0) = false := by simpa using he
    clear he
    by_cases hp : splErr s l = 0
    · have HP := Lib.hid hp
      have hpb : (splErr s l != 0) = false := by simpa using hp
      clear hp
      go_enter Tryz.func28, Tryz.ntmps28
      go_wp2_with (first
        | (go_at_call 15; refine (textError_any s _ (le_max hs)).mono ?_; rintro e w1 ⟨rfl, hb1⟩)
        | (go_at_call 58; refine (spliceError_any s _ l _ hs hl HT.out ((HV.out.below hb1).more hb1.size)).mono ?_; rintro e w2 ⟨rfl, hb2⟩)
        | (go_at_call 39; refine (plan_any s _ l _ hs (by have := (splErr_ok HP.out).1; omega) (splRight_in s.size l 0 (Int.le_refl 0) (splErr_ok HP.out).2.1 HT.out) (((HV.out.below hb1).more hb1.size).below hb2 |>.more hb2.size)).mono ?_; rintro e w3 ⟨v', rfl, hb3, hrow⟩))
      go_ret2
      have hr : planAnyRes s l = planRes s l := by unfold planAnyRes; rw [if_neg (by rw [HE.out]; simp), if_neg (by rw [HP.out]; simp)]
      rw [hr]
      exact ⟨_, rfl, (hb1.trans (hb2.mono hb1.size)).trans (hb3.mono (Nat.le_trans hb1.size hb2.size)), row_less hrow (Nat.le_trans hb1.size hb2.size)⟩
    · have HP := Lib.hid hp
      have hpb : (splErr s l != 0) = true := by simpa using hp
      clear hp
      go_enter Tryz.func28, Tryz.ntmps28
      go_wp2_with (first
        | (go_at_call 15; refine (textError_any s _ (le_max hs)).mono ?_; rintro e w1 ⟨rfl, hb1⟩)
        | (go_at_call 58; refine (spliceError_any s _ l _ hs hl HT.out ((HV.out.below hb1).more hb1.size)).mono ?_; rintro e w2 ⟨rfl, hb2⟩))
      go_ret2
      have hr : planAnyRes s l = ([], splErr s l) := by unfold planAnyRes; rw [if_neg (by rw [HE.out]; simp), if_pos HP.out]
      rw [hr]
      exact ⟨_, rfl, hb1.trans (hb2.mono hb1.size), World.ownsRow_nil _ _ _ _⟩
  · have HE := Lib.hid he
    have heb : ((textErr s).2 != 0) = true := by simpa using he
    clear he
    go_enter Tryz.func28, Tryz.ntmps28
    go_wp2_with (go_at_call 15; refine (textError_any s _ (le_max hs)).mono ?_; rintro e w1 ⟨rfl, hb1⟩)
    go_ret2
    have hr : planAnyRes s l = ([], (textErr s).2) := by unfold planAnyRes; rw [if_pos HE.out]
    rw [hr]
    exact ⟨_, rfl, hb1, World.ownsRow_nil _ _ _ _⟩

/-- A slice value that holds changes, in a block below B. -/
def ChgIn (W : World) (B : Nat) (v : Value) (l : List Chg) : Prop :=
  ∃ A c, v = .slice A l.length c ∧ ∀ i (x : Chg), l[i]? = some x → ∃ b off, A = some ⟨b, off, none⟩ ∧ b < B ∧
    W.cell? ⟨b, off + i * 5, none⟩ = some (.int .i64 x.from_) ∧ W.cell? ⟨b, off + i * 5 + 1, none⟩ = some (.int .i64 x.to_) ∧ W.cell? ⟨b, off + i * 5 + 2, none⟩ = some (.string x.text) ∧
    W.cell? ⟨b, off + i * 5 + 3, none⟩ = some (.string x.out) ∧ W.cell? ⟨b, off + i * 5 + 4, none⟩ = some (.int .i64 x.at_)

theorem chgCells_get : ∀ (l : List Chg) (i : Nat) (x : Chg), l[i]? = some x → ∀ j u, x.cells5[j]? = some u → (chgCells l)[i * 5 + j]? = some u
  | [], i, x, h, _, _, _ => by simp at h
  | y :: r, 0, x, h, j, u, hj => by
    simp only [List.getElem?_cons_zero, Option.some.injEq] at h
    subst h
    show (y.cells5 ++ chgCells r)[0 * 5 + j]? = some u
    rw [List.getElem?_append_left (by have := (List.getElem?_eq_some_iff.1 hj).1; omega)]
    simpa using hj
  | y :: r, i + 1, x, h, j, u, hj => by
    have ih := chgCells_get r i x (by simpa using h) j u hj
    show (y.cells5 ++ chgCells r)[(i + 1) * 5 + j]? = some u
    have h5 : y.cells5.length = 5 := rfl
    rw [List.getElem?_append_right (by omega), h5, show (i + 1) * 5 + j - 5 = i * 5 + j by omega]
    exact ih

theorem row_at {W : World} {n₀ : Nat} {e : TypeId} {size k : Nat} {v : Value} {xs : List Value} (h : W.ownsRow n₀ e size v k xs) :
    ∃ A c, v = .slice A k c ∧ (xs ≠ [] → ∃ b, A = some ⟨b, 0, none⟩ ∧ b < W.heap.size ∧ ∀ j u, xs[j]? = some u → W.cell? ⟨b, j, none⟩ = some u) := by
  rcases h.2 with ⟨rfl, rfl⟩ | ⟨g, cap, cur, rfl, hb, hg, hc1, hc2, hc3, hc4⟩
  · have hx : xs = [] := List.eq_nil_of_length_eq_zero (by simpa using h.1)
    exact ⟨_, _, rfl, fun hne => absurd hx hne⟩
  · refine ⟨_, _, rfl, fun _ => ⟨g, rfl, (Array.getElem?_eq_some_iff.1 hg).1, fun j u hj => ?_⟩⟩
    rw [cell_of_row W g j cur e (0, 0) hg, ← Array.getElem?_toList]
    rw [← hc4] at hj
    rw [List.getElem?_take] at hj
    split at hj
    · exact hj
    · cases hj

theorem chgIn_of_own {W : World} {n₀ : Nat} {v : Value} {l : List Chg} (h : W.ownsRow n₀ 79 5 v l.length (chgCells l)) : ChgIn W W.heap.size v l := by
  obtain ⟨A, c, rfl, hA⟩ := row_at h
  refine ⟨A, c, rfl, fun i x hx => ?_⟩
  have hne : chgCells l ≠ [] := by
    intro e
    have := chgCells_get l i x hx 0 _ rfl
    rw [e] at this
    simp at this
  obtain ⟨b, rfl, hb, hc⟩ := hA hne
  refine ⟨b, 0, rfl, hb, ?_, ?_, ?_, ?_, ?_⟩
  · have := hc _ _ (chgCells_get l i x hx 0 _ rfl); simpa using this
  · have := hc _ _ (chgCells_get l i x hx 1 _ rfl); simpa using this
  · have := hc _ _ (chgCells_get l i x hx 2 _ rfl); simpa using this
  · have := hc _ _ (chgCells_get l i x hx 3 _ rfl); simpa using this
  · have := hc _ _ (chgCells_get l i x hx 4 _ rfl); simpa using this
end Go.Proofs.YtjadjmkbjolklaaGreatDoor
namespace Go.Proofs.YtjadjmkbjolklaaGreatDoor
open Go.RowKit

/-- The text after changes, from a place on. -/
def afterB (s : ByteArray) : Nat → List Chg → List UInt8
  | f, [] => s.data.toList.drop f
  | f, x :: r => (s.data.toList.drop f).take (x.from_.toNat - f) ++ (x.text.data.toList ++ afterB s x.to_.toNat r)

/-- Changes lie within a text of n bytes, one behind the other. -/
def chOrd (n : Nat) : Nat → List Chg → Prop
  | f, [] => f ≤ n
  | f, x :: r => (f : Int) ≤ x.from_ ∧ x.from_ ≤ x.to_ ∧ x.to_ ≤ n ∧ chOrd n x.to_.toNat r

theorem afterB_step (s : ByteArray) (f : Nat) (l : List Chg) (k : Nat) (x : Chg) (h : l[k]? = some x) :
    afterB s f (l.drop k) = (s.data.toList.drop f).take (x.from_.toNat - f) ++ (x.text.data.toList ++ afterB s x.to_.toNat (l.drop (k + 1))) := by
  obtain ⟨hk, rfl⟩ := List.getElem?_eq_some_iff.1 h
  rw [List.drop_eq_getElem_cons hk, afterB]

theorem chOrd_step (n : Nat) (f : Nat) (l : List Chg) (k : Nat) (x : Chg) (h : l[k]? = some x) :
    chOrd n f (l.drop k) = ((f : Int) ≤ x.from_ ∧ x.from_ ≤ x.to_ ∧ x.to_ ≤ n ∧ chOrd n x.to_.toNat (l.drop (k + 1))) := by
  obtain ⟨hk, rfl⟩ := List.getElem?_eq_some_iff.1 h
  rw [List.drop_eq_getElem_cons hk, chOrd]

theorem ChgIn.below {W W' : World} {B : Nat} {v : Value} {l : List Chg} (h : ChgIn W B v l) (hb : Below B W W') : ChgIn W' B v l := by
  obtain ⟨A, c, rfl, hA⟩ := h
  refine ⟨A, c, rfl, fun i x hx => ?_⟩
  obtain ⟨b, off, rfl, hB, h1, h2, h3, h4, h5⟩ := hA i x hx
  exact ⟨b, off, rfl, hB, (hb.cell (p := ⟨b, _, none⟩) hB).trans h1, (hb.cell (p := ⟨b, _, none⟩) hB).trans h2, (hb.cell (p := ⟨b, _, none⟩) hB).trans h3, (hb.cell (p := ⟨b, _, none⟩) hB).trans h4, (hb.cell (p := ⟨b, _, none⟩) hB).trans h5⟩

theorem builder_new (w : World) : Lib.IsBuilderF 63 5 w.heap.size w.heap.size (Lib.byteCells []) (w.alloc (.cells #[.pointer none, .slice none 0 0] 63)) :=
  Lib.IsBuilderF.of (Lib.fresh_isBuilder 63 5 w)

theorem afterB_round {s : ByteArray} {l : List Chg} {done : List UInt8} {f k : Nat} {x : Chg} (hl : (afterB s 0 l).length ≤ 140737488355328) (hd : afterB s 0 l = done ++ afterB s f (l.drop k)) (hx : l[k]? = some x) :
    done.length + ((s.data.toList.drop f).take (x.from_.toNat - f)).length ≤ 140737488355328 ∧ done.length + ((s.data.toList.drop f).take (x.from_.toNat - f)).length + x.text.size ≤ 140737488355328 := by
  rw [hd, afterB_step s f l k x hx] at hl
  simp only [List.length_append] at hl
  have : x.text.data.toList.length = x.text.size := by simp
  omega

theorem copy_kept {W w2 : World} {g b : Nat} {c0 c1 c2 c3 c4 : Value} (h : W.heap[g]? = some (.cells #[c0, c1, c2, c3, c4] 79 (0, 0))) (hk : Lib.OthersKept 5 (some b) W w2) (hne : g ≠ b) :
    w2.cell? ⟨g, 0, none⟩ = some c0 ∧ w2.cell? ⟨g, 1, none⟩ = some c1 ∧ w2.cell? ⟨g, 2, none⟩ = some c2 ∧ w2.cell? ⟨g, 3, none⟩ = some c3 ∧ w2.cell? ⟨g, 4, none⟩ = some c4 ∧ w2.heap[g]? = some (.cells #[c0, c1, c2, c3, c4] 79 (0, 0)) := by
  have h2 := hk g _ h (by simpa using hne) (fun c fz e => by injection e with _ e; cases e)
  exact ⟨cell_of_row w2 _ 0 _ 79 (0, 0) h2, cell_of_row w2 _ 1 _ 79 (0, 0) h2, cell_of_row w2 _ 2 _ 79 (0, 0) h2, cell_of_row w2 _ 3 _ 79 (0, 0) h2, cell_of_row w2 _ 4 _ 79 (0, 0) h2, h2⟩

set_option maxRecDepth 100000 in
set_option maxHeartbeats 2000000 in
theorem textAfter_any (s : ByteArray) (v : Value) (l : List Chg) (w : World) (hs : s.size ≤ 140737488355328) (hl : l.length ≤ 140737488355328) (ho : chOrd s.size 0 l) (hlen : (afterB s 0 l).length ≤ 140737488355328) (hv : ChgIn w w.heap.size v l) :
    Calls Tryz.prog 40 #[.string s, v] w fun e w' => e = .returned (.string ⟨(afterB s 0 l).toArray⟩) ∧ Below w.heap.size w w' := by
  have HV := Lib.hid hv
  have HO := Lib.hid ho
  have HL := Lib.hid hlen
  obtain ⟨A, c, rfl, hA⟩ := hv
  have HA := Lib.hid hA
  clear hA ho hlen
  have hbn := builder_new w
  go_enter Tryz.func40, Tryz.ntmps40
  go_wp2_with fail
  go_loopw [6, 11] (fun fr i wr => ∃ (k f : Nat) (done : List UInt8), k ≤ l.length ∧ i = .int .i64 k ∧ fr = .int .i64 f ∧ Lib.IsBuilderF 63 5 w.heap.size w.heap.size (Lib.byteCells done) wr ∧ w.heap.size < wr.heap.size ∧
      Hid (afterB s 0 l = done ++ afterB s f (l.drop k) ∧ chOrd s.size f (l.drop k)) ∧ f ≤ s.size ∧ Below w.heap.size w wr) (fun _ i _ => l.length - (intOf i).toNat)
  case atStart => exact ⟨0, 0, [], by omega, rfl, rfl, hbn, by simp, Lib.hid ⟨rfl, HO.out⟩, by omega, (Below.refl _ _).alloc (Nat.le_refl _) _⟩
  case round =>
    obtain ⟨k, f, done, hk, rfl, rfl, hbd, hbs, HD, hf, hb⟩ := hrel
    have hsz := hb.size
    clear hbn
    by_cases hlt : k < l.length
    · obtain ⟨x, hx⟩ : ∃ x, l[k]? = some x := ⟨_, List.getElem?_eq_getElem hlt⟩
      obtain ⟨b, off, rfl, hB, h1, h2, h3, h4, h5⟩ := HA.out k x hx
      have HX := Lib.hid hx
      have d1 := (hb.cell (p := ⟨b, _, none⟩) hB).trans h1
      have d2 := (hb.cell (p := ⟨b, _, none⟩) hB).trans h2
      have d3 := (hb.cell (p := ⟨b, _, none⟩) hB).trans h3
      have d4 := (hb.cell (p := ⟨b, _, none⟩) hB).trans h4
      have d5 := (hb.cell (p := ⟨b, _, none⟩) hB).trans h5
      have hord := HD.out.2
      rw [chOrd_step s.size f l k x hx] at hord
      obtain ⟨o1, o2, o3, o4⟩ := hord
      have HO4 := Lib.hid o4
      clear h1 h2 h3 h4 h5 hx o4
      have HL2 := afterB_round HL.out HD.out.1 HX.out
      have hx5 := Lib.hid (show ((s.data.toList.drop f).take (x.from_.toNat - f)) = (s.extract f x.from_.toNat).data.toList by simp)
      go_wp2_with fail
      refine (writeString_any w.heap.size w.heap.size (Lib.byteCells done) _ _ (hbd.alloc _) (by rw [Lib.byteCells_length]; have := HL2.1; simp at this ⊢; omega) (by simp; omega)).mono ?_
      rintro e w2 ⟨rfl, hbd2, hb2, hk2⟩
      obtain ⟨q0, q1, q2, q3, q4, hg2⟩ := copy_kept (World.alloc_heap_new wr _) hk2 (by omega)
      clear d1 d2 d3 d4 d5
      have hB2 := (hb.alloc hsz _).trans hb2
      have hsz2 := hB2.size
      have hs2 := hb2.size
      rw [Lib.strCells_eq, ← Lib.byteCells_append, ← hx5.out] at hbd2
      simp only [World.size_alloc] at hs2
      clear hb2 hk2 hbd
      go_wp2_with fail
      refine (writeString_any w.heap.size w.heap.size _ _ _ (.inr hbd2) (by rw [Lib.byteCells_length, List.length_append]; exact HL2.2) hsz2).mono ?_
      rintro e w3 ⟨rfl, hbd3, hb3, hk3⟩
      obtain ⟨r0, r1, r2, r3, r4, hg3⟩ := copy_kept hg2 hk3 (by omega)
      have hB3 := hB2.trans hb3
      have hs3 := hb3.size
      rw [Lib.strCells_eq, ← Lib.byteCells_append] at hbd3
      clear q0 q1 q2 q3 q4 hg2 hbd2 hk3 hb3 hg3
      go_wp2_with fail
      go_roundw
      case rel =>
        refine ⟨k + 1, x.to_.toNat, _, by omega, by go_num, ?_, .inr hbd3, by omega, Lib.hid ⟨?_, HO4.out⟩, by omega, hB3⟩
        · rw [Int.toNat_of_nonneg (by omega)]
        · rw [HD.out.1, afterB_step s f l k x HX.out]
          simp
      case measure => simp [intOf]; omega
    · have h1 := HD.out.1
      rw [List.drop_eq_nil_of_le (by omega), afterB] at h1
      have H1 := Lib.hid h1
      have HB := HL.out
      rw [h1, List.length_append] at HB
      clear h1
      go_wp2_with fail
      refine (writeString_any w.heap.size w.heap.size (Lib.byteCells done) _ _ hbd (by rw [Lib.byteCells_length]; simp at HB ⊢; omega) hsz).mono ?_
      rintro e w2 ⟨rfl, hbd2, hb2, hk2⟩
      have hx5 := Lib.hid (show s.data.toList.drop f = (s.extract f s.size).data.toList by simp [List.take_of_length_le])
      rw [Lib.strCells_eq, ← Lib.byteCells_append, ← hx5.out, ← H1.out] at hbd2
      have hB2 := hb.trans hb2
      have hsz2 := hB2.size
      clear hb2 hk2 hbd HB
      go_wp2_with fail
      refine (Tryz.Builder_String_any_k w.heap.size w.heap.size _ _ (.inr hbd2) hsz2).mono ?_
      rintro e w3 ⟨rfl, _, hb3, _⟩
      go_wp2_with fail
      go_ret
      exact ⟨rfl, hB2.trans hb3⟩
end Go.Proofs.YtjadjmkbjolklaaGreatDoor
namespace Go.Proofs.YtjadjmkbjolklaaGreatDoor
open Go.RowKit

theorem chgs_ord (s : ByteArray) : ∀ (l : List Spl) (f g : Int), 0 ≤ f → f ≤ s.size → splRight s.size f l = true →
    chOrd s.size f.toNat (chgs s g l) ∧ ((afterB s f.toNat (chgs s g l)).length : Int) = (s.size - f) + (grown s g l - g)
  | [], f, g, h0, h1, _ => by
    refine ⟨?_, ?_⟩
    · show f.toNat ≤ s.size
      omega
    · show ((s.data.toList.drop f.toNat).length : Int) = _ + (g - g)
      simp
      omega
  | x :: r, f, g, h0, h1, h => by
    rw [splRight] at h
    split at h
    · cases h
    · have ih := chgs_ord s r x.to_ (g + ((x.text.size : Int) - (s.extract x.from_.toNat x.to_.toNat).size)) (by omega) (by omega) h
      refine ⟨⟨by show ((f.toNat : Nat) : Int) ≤ x.from_; omega, by show x.from_ ≤ x.to_; omega, by show x.to_ ≤ _; omega, ih.1⟩, ?_⟩
      rw [chgs, afterB, grown]
      simp only [List.length_append, Int.natCast_add]
      rw [ih.2]
      have e1 : (x.text.data.toList.length : Int) = x.text.size := by simp
      have e2 : ((s.extract x.from_.toNat x.to_.toNat).size : Int) = x.to_ - x.from_ := by simp; omega
      have e3 : (((s.data.toList.drop f.toNat).take (x.from_.toNat - f.toNat)).length : Int) = x.from_ - f := by simp; omega
      rw [e1, e2]
      show (((s.data.toList.drop f.toNat).take (x.from_.toNat - f.toNat)).length : Int) + _ = _
      rw [e3]
      omega

/-- What lex.Apply returns. -/
def applyRes (s : ByteArray) (l : List Spl) : List UInt8 × Int := if (planAnyRes s l).2 ≠ 0 then ([], (planAnyRes s l).2) else (afterB s 0 (chgs s 0 l), 0)

theorem planAny_ok {s : ByteArray} {l : List Spl} (h : (planAnyRes s l).2 = 0) :
    (textErr s).2 = 0 ∧ splErr s l = 0 ∧ planAnyRes s l = (chgs s 0 l, 0) ∧ (s.size : Int) + grown s 0 l ≤ 2500 := by
  unfold planAnyRes at h ⊢
  split at h
  · rename_i h1
    exact absurd h h1
  · rename_i h1
    split at h
    · rename_i h2
      exact absurd h h2
    · rename_i h2
      unfold planRes at h ⊢
      split at h
      · cases h
      · rename_i h3
        refine ⟨by simpa using h1, by simpa using h2, ?_, by omega⟩
        rw [if_neg h1, if_neg h2, if_neg h3]

set_option maxRecDepth 100000 in
set_option maxHeartbeats 1000000 in
theorem apply_any (s : ByteArray) (v : Value) (l : List Spl) (w : World) (hs : s.size ≤ 140737488355328) (hl : l.length ≤ 140737488355328) (ht : ∀ x ∈ l, x.text.size ≤ 140737488355328) (hv : SplIn w w.heap.size v l) :
    Calls Tryz.prog 33 #[.string s, v] w fun e w' => e = .returned (.tuple #[.string ⟨(applyRes s l).1.toArray⟩, .int .i64 (applyRes s l).2]) ∧ Below w.heap.size w w' := by
  have HV := Lib.hid hv
  have HT := Lib.hid ht
  obtain ⟨A, c, rfl, _⟩ := hv
  clear ht
  by_cases he : (planAnyRes s l).2 = 0
  · have HE := Lib.hid he
    have heb : ((planAnyRes s l).2 != 0) = false := by simpa using he
    clear he
    go_enter Tryz.func33, Tryz.ntmps33
    go_wp2_with (go_at_call 28; refine (planAny_any s _ l _ hs hl HT.out HV.out).mono ?_; rintro e w1 ⟨v', rfl, hb1, hrow⟩)
    obtain ⟨p1, p2, p3, p4⟩ := planAny_ok HE.out
    have q := splErr_ok p2
    have q2 := chgs_ord s l 0 0 (Int.le_refl 0) (by omega) q.2.1
    rw [p3] at hrow
    have hci := chgIn_of_own hrow
    have HC := Lib.hid hci
    have HQ := Lib.hid q2
    have HP4 := Lib.hid p4
    clear p1 p2 p3 p4 q2 hci hrow
    go_wp2_with (go_at_call 40; refine (textAfter_any s _ (chgs s 0 l) _ hs (by rw [chgs_length]; omega) HQ.out.1 (by have h1 := HQ.out.2; have h2 := HP4.out; simp only [Int.toNat_zero] at h1; omega) HC.out).mono ?_; rintro e w2 ⟨rfl, hb2⟩)
    go_ret2
    have hr : applyRes s l = (afterB s 0 (chgs s 0 l), 0) := by unfold applyRes; rw [if_neg (by rw [HE.out]; simp)]
    rw [hr]
    exact ⟨rfl, hb1.trans (hb2.mono hb1.size)⟩
  · have HE := Lib.hid he
    have heb : ((planAnyRes s l).2 != 0) = true := by simpa using he
    clear he
    go_enter Tryz.func33, Tryz.ntmps33
    go_wp2_with (go_at_call 28; refine (planAny_any s _ l _ hs hl HT.out HV.out).mono ?_; rintro e w1 ⟨v', rfl, hb1, hrow⟩)
    go_ret2
    have hr : applyRes s l = ([], (planAnyRes s l).2) := by unfold applyRes; rw [if_pos HE.out]
    rw [hr]
    exact ⟨rfl, hb1⟩
end Go.Proofs.YtjadjmkbjolklaaGreatDoor
namespace Go.Proofs.YtjadjmkbjolklaaGreatDoor
open Go.RowKit

/-- Is a token one as it stands alone? -/
def isRightP (kind : Int) (text : ByteArray) : Bool :=
  decide (0 < text.size) && (decide (¬ pieceEndP text 0 < text.size) && (decide ((kindP text).2 = 0) && (decide ((kindP text).1 = kind) && decide ((kindP text).1 ≠ 5))))

theorem ret_bool {a b : Bool} (h : a = b) : Ending.returned (.bool a) = .returned (.bool b) := by rw [h]

set_option maxRecDepth 100000 in
set_option maxHeartbeats 1000000 in
theorem isRight_any (k a : Int) (s : ByteArray) (b : Nat) (w : World) (hs : s.size ≤ 140737488355328) (hv : NumVars w) (hk : KwMap w b) :
    Calls Tryz.prog 54 #[.agg #[.int .u8 k, .string s, .int .i64 a], .map (some b)] w fun e w' => e = .returned (.bool (isRightP k s)) ∧ Below w.heap.size w w' := by
  have HV := Lib.hid hv
  have HK := Lib.hid hk
  clear hv hk
  by_cases h0 : s.size = 0
  · obtain rfl : s = ⟨#[]⟩ := by
      obtain ⟨⟨x⟩⟩ := s
      cases x with
      | nil => rfl
      | cons y r => simp [ByteArray.size] at h0
    clear h0
    go_enter Tryz.func54, Tryz.ntmps54
    go_wp2_with fail
    go_quiet (fail)
    go_wp2
    go_ret
    exact ⟨rfl, below_drewN ((Below.refl _ _).alloc (Nat.le_refl _) _) _⟩
  · have hne : s.toList.isEmpty = false := by
      rw [Lib.toList_data, List.isEmpty_eq_false_iff]
      intro e
      apply h0
      have := congrArg List.length e
      simpa using this
    have HPE : Hid (∀ w, Calls Tryz.prog 46 #[.string s, .int .i64 0] w fun e w' => e = .returned (.int .i64 (pieceEndP s 0)) ∧ Below w.heap.size w w') := fun w => pieceEnd_any s 0 w hs (by omega) (by omega)
    have e1 : (w.alloc (.cells #[.int .u8 k, .string s, .int .i64 a] 35)).cell? ⟨w.heap.size, 1, none⟩ = some (.string s) := by rw [World.cell?_alloc_at _ _ _ _ rfl]; rfl
    have e0 : (w.alloc (.cells #[.int .u8 k, .string s, .int .i64 a] 35)).cell? ⟨w.heap.size, 0, none⟩ = some (.int .u8 k) := by rw [World.cell?_alloc_at _ _ _ _ rfl]; rfl
    have hb1 := (Below.refl w.heap.size w).alloc (Nat.le_refl _) (.cells #[.int .u8 k, .string s, .int .i64 a] 35)
    have hz1 : w.heap.size < (w.alloc (.cells #[.int .u8 k, .string s, .int .i64 a] 35)).heap.size := by simp
    go_enter Tryz.func54, Tryz.ntmps54
    go_wp2_with fail
    obtain ⟨g, hg⟩ : ∃ g, g = w.heap.size := ⟨_, rfl⟩
    rw [← hg] at e1 e0 hz1 ⊢
    have hb1' : Below w.heap.size w (w.alloc (.cells #[.int .u8 k, .string s, .int .i64 a] 35)) := hb1
    clear hb1
    generalize w.alloc (.cells #[.int .u8 k, .string s, .int .i64 a] 35) = W1 at e1 e0 hb1' hz1 ⊢
    have HG := Lib.hid hg
    clear hg
    go_region_with (go_at_call 46; refine (HPE.out _).mono ?_; rintro e w2 ⟨rfl, hb2⟩; have e3 := (hb2.cell (p := ⟨g, 1, none⟩) hz1).trans e1)
    all_goals (
      have hz2 : g < w2.heap.size := by have := hb2.size; simp at this; omega
      have e4 := (hb2.cell (p := ⟨g, 0, none⟩) hz1).trans e0
      have HB := Lib.hid ((hb1'.drew).trans (hb2.mono (by rw [World.size_drew]; exact hb1'.size)))
      have HV2 := Lib.hid (HV.out.keep HB.out)
      have HK2 := Lib.hid (HK.out.below HB.out HK.out.lt)
      clear e0 e1 hb2 HPE)
    all_goals by_cases hpe : pieceEndP s 0 < s.size
    all_goals go_wp2_with (go_at_call 47; refine (kindOf_any s b _ hs (by omega) HV2.out HK2.out).mono ?_; rintro e w3 ⟨rfl, hb3⟩; have e5 := (hb3.cell (p := ⟨g, 0, none⟩) hz2).trans e4)
    all_goals go_ret
    all_goals have hpos : 0 < s.size := by omega
    all_goals refine ⟨ret_bool ?_, ?_⟩
    all_goals first
      | exact HB.out
      | exact HB.out.trans (hb3.mono HB.out.size)
      | skip
    all_goals (unfold isRightP; simp [*]; try (rw [Bool.eq_iff_iff]; simp))
end Go.Proofs.YtjadjmkbjolklaaGreatDoor
namespace Go.Proofs.YtjadjmkbjolklaaGreatDoor
open Go.RowKit

set_option maxRecDepth 100000 in
theorem isName_any (s : ByteArray) (b : Nat) (w : World) (hs : s.size ≤ 140737488355328) (hv : NumVars w) (hk : KwMap w b) :
    Calls Tryz.prog 38 #[.string s, .map (some b)] w fun e w' => e = .returned (.bool (isRightP 1 s)) ∧ Below w.heap.size w w' := by
  have HV := Lib.hid hv
  have HK := Lib.hid hk
  clear hv hk
  go_enter Tryz.func38, Tryz.ntmps38
  go_wp2_with (go_at_call 54; refine (isRight_any 1 0 s b _ hs HV.out HK.out).mono ?_; rintro e w1 ⟨rfl, hb⟩)
  go_ret
  exact ⟨rfl, hb⟩
end Go.Proofs.YtjadjmkbjolklaaGreatDoor
namespace Go.Proofs.YtjadjmkbjolklaaGreatDoor
open Go Go.RowKit

/-- Pieces lie within a text of n bytes from a place on, one behind the other. -/
def pcOrd (n : Nat) : Nat → List Piece → Prop
  | f, [] => f ≤ n
  | f, x :: r => f ≤ x.at_ ∧ x.at_ + x.text.size ≤ n ∧ pcOrd n (x.at_ + x.text.size) r

theorem pcOrd_mono (n : Nat) : ∀ (l : List Piece) (f g : Nat), g ≤ f → pcOrd n f l → pcOrd n g l
  | [], _, _, h, ho => Nat.le_trans h ho
  | _ :: _, _, _, h, ho => ⟨Nat.le_trans h ho.1, ho.2⟩

theorem pcOrd_filter (n : Nat) (p : Piece → Bool) : ∀ (l : List Piece) (f : Nat), pcOrd n f l → pcOrd n f (l.filter p)
  | [], f, ho => ho
  | x :: r, f, ho => by
    rw [List.filter_cons]
    split
    · exact ⟨ho.1, ho.2.1, pcOrd_filter n p r _ ho.2.2⟩
    · exact pcOrd_mono n _ _ _ (by have := ho.1; omega) (pcOrd_filter n p r _ ho.2.2)

theorem pcsFrom_ord (s : ByteArray) : ∀ (f k : Nat), k ≤ s.size → pcOrd s.size k (pcsFrom s f k)
  | 0, k, h => h
  | f + 1, k, h => by
    rw [pcsFrom]
    split
    · rename_i hk
      have h1 := pieceEndP_gt s k hk
      have h2 := pieceEndP_le s k hk
      have h3 := pastP_ge (inCls [1]) s (pieceEndP s k)
      have h4 := pastP_le (inCls [1]) s (pieceEndP s k) h2
      have hsz : k + (pieceAt s k).text.size ≤ pieceEndP s k := by
        unfold pieceAt
        dsimp only
        split
        · simp; omega
        · simp; omega
      exact ⟨Nat.le_refl _, by show k + _ ≤ _; omega, pcOrd_mono _ _ _ _ (by show k + _ ≤ _; omega) (pcsFrom_ord s f _ h4)⟩
    · exact h

theorem pcs_ord (s : ByteArray) : pcOrd s.size 0 (pcs s) :=
  pcOrd_mono _ _ _ _ (Nat.zero_le _) (pcsFrom_ord s _ _ (pastP_le _ _ _ (Nat.zero_le _)))

theorem tokAcc_filter : ∀ (l acc acc' : List Piece), tokAcc acc l = some acc' → acc' = acc ++ l.filter (fun p => !isNote p)
  | [], acc, acc', h => by
    simp only [tokAcc, Option.some.injEq] at h
    simp [h]
  | p :: r, acc, acc', h => by
    rw [tokAcc] at h
    rw [List.filter_cons]
    by_cases hn : isNote p = true
    · rw [if_pos hn] at h
      rw [if_neg (by simp [hn])]
      exact tokAcc_filter r acc acc' h
    · rw [if_neg hn] at h
      rw [if_pos (by simpa using hn)]
      split at h
      · cases h
      · have := tokAcc_filter r _ acc' h
        rw [this]
        simp

theorem tokRes_ok : ∀ (l acc : List Piece), (tokRes acc l).2.2 = 0 → tokAcc acc l = some (tokRes acc l).1 ∧ (tokRes acc l).2.1 = 0
  | [], acc, _ => ⟨rfl, rfl⟩
  | p :: r, acc, h => by
    rw [tokRes] at h ⊢
    rw [tokAcc]
    by_cases hn : isNote p = true
    · rw [if_pos hn] at h ⊢
      rw [if_pos hn]
      exact tokRes_ok r acc h
    · rw [if_neg hn] at h ⊢
      rw [if_neg hn]
      by_cases he : p.err ≠ 0
      · rw [if_pos he] at h
        exact absurd h he
      · rw [if_neg he] at h ⊢
        by_cases h9 : acc.length = 900
        · rw [if_pos h9] at h
          cases h
        · rw [if_neg h9] at h ⊢
          rw [if_neg (fun h1 => h1.elim he h9)]
          exact tokRes_ok r _ h

theorem tokAcc_900 : ∀ (l acc acc' : List Piece), acc.length ≤ 900 → tokAcc acc l = some acc' → acc'.length ≤ 900
  | [], acc, acc', h0, h => by
    simp only [tokAcc, Option.some.injEq] at h
    rw [← h]
    exact h0
  | p :: r, acc, acc', h0, h => by
    rw [tokAcc] at h
    split at h
    · exact tokAcc_900 r acc acc' h0 h
    · split at h
      · cases h
      · rename_i h2
        refine tokAcc_900 r _ acc' ?_ h
        have : acc.length ≠ 900 := fun e => h2 (.inr e)
        simp
        omega

theorem lexTokens_ok {s : ByteArray} (h : (lexTokens s).2.2 = 0) : (textErr s).2 = 0 ∧ tokAcc [] (pcs s) = some (lexTokens s).1 ∧ (lexTokens s).2.1 = 0 ∧ (lexTokens s).1.length ≤ 900 ∧ pcOrd s.size 0 (lexTokens s).1 := by
  unfold lexTokens at h ⊢
  split at h
  · rename_i h0
    rw [if_pos h0]
    have h1 := tokRes_ok (pcs s) [] h
    refine ⟨h0, h1.1, by simp [h1.2], tokAcc_900 _ _ _ (by simp) h1.1, ?_⟩
    show pcOrd s.size 0 (tokRes [] (pcs s)).1
    rw [tokAcc_filter _ _ _ h1.1, List.nil_append]
    exact pcOrd_filter _ _ _ _ (pcs_ord s)
  · rename_i h0
    exact absurd h h0

/-- The splices that make a name another one. -/
def renSpls (old name : ByteArray) : List Piece → List Spl
  | [] => []
  | t :: r => if t.text = old then ⟨t.at_, t.at_ + old.size, name⟩ :: renSpls old name r else renSpls old name r

theorem renSpls_right (n : Nat) (old name : ByteArray) : ∀ (l : List Piece) (f : Nat), pcOrd n f l → splRight n f (renSpls old name l) = true
  | [], f, _ => rfl
  | t :: r, f, h => by
    obtain ⟨h1, h2, h3⟩ := h
    rw [renSpls]
    split
    · rename_i ht
      rw [ht] at h2 h3
      rw [splRight, if_neg (by dsimp only; omega)]
      exact renSpls_right n old name r _ h3
    · exact renSpls_right n old name r f (pcOrd_mono _ _ _ _ (by omega) h3)

theorem renSpls_length (old name : ByteArray) : ∀ (l : List Piece), (renSpls old name l).length ≤ l.length
  | [] => Nat.le_refl _
  | t :: r => by
    have := renSpls_length old name r
    rw [renSpls]
    split
    · simp only [List.length_cons]; omega
    · simp only [List.length_cons]; omega

theorem renSpls_text (old name : ByteArray) : ∀ (l : List Piece), ∀ x ∈ renSpls old name l, x.text = name
  | [], x, h => by cases h
  | t :: r, x, h => by
    rw [renSpls] at h
    split at h
    · cases h with
      | head => rfl
      | tail _ h => exact renSpls_text old name r x h
    · exact renSpls_text old name r x h
end Go.Proofs.YtjadjmkbjolklaaGreatDoor
namespace Go.Proofs.YtjadjmkbjolklaaGreatDoor
open Go.RowKit

/-- A slice value that holds tokens, in a block below B. -/
def TokIn (W : World) (B : Nat) (v : Value) (l : List Piece) : Prop :=
  ∃ A c, v = .slice A l.length c ∧ ∀ i (x : Piece), l[i]? = some x → ∃ b off, A = some ⟨b, off, none⟩ ∧ b < B ∧
    W.cell? ⟨b, off + i * 3, none⟩ = some (.int .u8 x.kind) ∧ W.cell? ⟨b, off + i * 3 + 1, none⟩ = some (.string x.text) ∧ W.cell? ⟨b, off + i * 3 + 2, none⟩ = some (.int .i64 x.at_)

theorem TokIn.more {W : World} {B B' : Nat} {v : Value} {l : List Piece} (h : TokIn W B v l) (hB : B ≤ B') : TokIn W B' v l := by
  obtain ⟨A, c, rfl, hA⟩ := h
  refine ⟨A, c, rfl, fun i x hx => ?_⟩
  obtain ⟨b, off, rfl, h0, h1⟩ := hA i x hx
  exact ⟨b, off, rfl, by omega, h1⟩

theorem TokIn.below {W W' : World} {B : Nat} {v : Value} {l : List Piece} (h : TokIn W B v l) (hb : Below B W W') : TokIn W' B v l := by
  obtain ⟨A, c, rfl, hA⟩ := h
  refine ⟨A, c, rfl, fun i x hx => ?_⟩
  obtain ⟨b, off, rfl, hB, h1, h2, h3⟩ := hA i x hx
  exact ⟨b, off, rfl, hB, (hb.cell (p := ⟨b, _, none⟩) hB).trans h1, (hb.cell (p := ⟨b, _, none⟩) hB).trans h2, (hb.cell (p := ⟨b, _, none⟩) hB).trans h3⟩

theorem cells_get {α : Type} (f : α → List Value) (n : Nat) (hf : ∀ x, (f x).length = n) : ∀ (l : List α) (i : Nat) (x : α), l[i]? = some x → ∀ j u, (f x)[j]? = some u → (l.flatMap f)[i * n + j]? = some u
  | [], i, x, h, _, _, _ => by simp at h
  | y :: r, 0, x, h, j, u, hj => by
    simp only [List.getElem?_cons_zero, Option.some.injEq] at h
    subst h
    rw [List.flatMap_cons, List.getElem?_append_left (by have := (List.getElem?_eq_some_iff.1 hj).1; omega)]
    simpa using hj
  | y :: r, i + 1, x, h, j, u, hj => by
    have ih := cells_get f n hf r i x (by simpa using h) j u hj
    rw [List.flatMap_cons, List.getElem?_append_right (by rw [hf, Nat.add_mul]; omega), hf, show (i + 1) * n + j - n = i * n + j by rw [Nat.add_mul]; omega]
    exact ih

theorem tokIn_of_own {W : World} {n₀ : Nat} {v : Value} {l : List Piece} (h : OwnToks W n₀ v l) : TokIn W W.heap.size v l := by
  obtain ⟨A, c, rfl, hA⟩ := row_at h
  refine ⟨A, c, rfl, fun i x hx => ?_⟩
  have hg := fun j u => cells_get Piece.cells3 3 (fun _ => rfl) l i x hx j u
  have hne : tokCells l ≠ [] := by
    intro e
    have := hg 0 _ rfl
    rw [show l.flatMap Piece.cells3 = tokCells l from rfl, e] at this
    simp at this
  obtain ⟨b, rfl, hb, hc⟩ := hA hne
  refine ⟨b, 0, rfl, hb, ?_, ?_, ?_⟩
  · have := hc _ _ (hg 0 _ rfl); simpa using this
  · have := hc _ _ (hg 1 _ rfl); simpa using this
  · have := hc _ _ (hg 2 _ rfl); simpa using this

/-- The cells of splices. -/
def Spl.cells3 (x : Spl) : List Value := [.int .i64 x.from_, .int .i64 x.to_, .string x.text]
def splCells (l : List Spl) : List Value := l.flatMap Spl.cells3
theorem splCells_append (l l' : List Spl) : splCells (l ++ l') = splCells l ++ splCells l' := by simp [splCells]

theorem splIn_of_own {W : World} {n₀ : Nat} {v : Value} {l : List Spl} (h : W.ownsRow n₀ 40 3 v l.length (splCells l)) : SplIn W W.heap.size v l := by
  obtain ⟨A, c, rfl, hA⟩ := row_at h
  refine ⟨A, c, rfl, fun i x hx => ?_⟩
  have hg := fun j u => cells_get Spl.cells3 3 (fun _ => rfl) l i x hx j u
  have hne : splCells l ≠ [] := by
    intro e
    have := hg 0 _ rfl
    rw [show l.flatMap Spl.cells3 = splCells l from rfl, e] at this
    simp at this
  obtain ⟨b, rfl, hb, hc⟩ := hA hne
  refine ⟨b, 0, rfl, hb, ?_, ?_, ?_⟩
  · have := hc _ _ (hg 0 _ rfl); simpa using this
  · have := hc _ _ (hg 1 _ rfl); simpa using this
  · have := hc _ _ (hg 2 _ rfl); simpa using this

theorem info56 : (Tryz.prog.info? 40).map (fun i => (i.zero, i.size, i.bytes)) = some (some (.agg #[.int .i64 0, .int .i64 0, .string ByteArray.empty]), 3, 32) := by kernel_rfl

theorem renSpls_append (old name : ByteArray) : ∀ (l l' : List Piece), renSpls old name (l ++ l') = renSpls old name l ++ renSpls old name l'
  | [], l' => rfl
  | t :: r, l' => by
    rw [List.cons_append, renSpls, renSpls, renSpls_append old name r l']
    split <;> rfl

theorem toList_beq (a b : ByteArray) : (a.toList == b.toList) = decide (a = b) := by
  rw [Lib.toList_data, Lib.toList_data, Bool.eq_iff_iff]
  simp only [beq_iff_eq, decide_eq_true_eq]
  constructor
  · intro h
    obtain ⟨⟨x⟩⟩ := a
    obtain ⟨⟨y⟩⟩ := b
    simp only at h
    rw [h]
  · intro h
    rw [h]

theorem pcOrd_at (n : Nat) : ∀ (l : List Piece) (f k : Nat) (x : Piece), pcOrd n f l → l[k]? = some x → x.at_ + x.text.size ≤ n
  | [], _, _, _, _, hx => by simp at hx
  | y :: r, _, 0, x, h, hx => by
    simp only [List.getElem?_cons_zero, Option.some.injEq] at hx
    subst hx
    exact h.2.1
  | y :: r, _, k + 1, x, h, hx => pcOrd_at n r _ k x h.2.2 (by simpa using hx)

/-- What lex.Rename returns. -/
def renameRes (s old name : ByteArray) : List UInt8 × Int :=
  if (lexTokens s).2.2 ≠ 0 then ([], (lexTokens s).2.2)
  else if isRightP 1 old = false ∨ isRightP 1 name = false then ([], 2)
  else if renSpls old name (lexTokens s).1 = [] then ([], 7)
  else if (lexTokens s).1.any (fun t => decide (t.text = name)) = true then ([], 6)
  else if (planRes s (renSpls old name (lexTokens s).1)).2 ≠ 0 then ([], (planRes s (renSpls old name (lexTokens s).1)).2)
  else (afterB s 0 (chgs s 0 (renSpls old name (lexTokens s).1)), 0)

theorem renSpls_take {old name : ByteArray} {l : List Piece} {k : Nat} {x : Piece} (h : l[k]? = some x) :
    renSpls old name (l.take (k + 1)) = renSpls old name (l.take k) ++ (if x.text = old then [⟨x.at_, x.at_ + old.size, name⟩] else []) := by
  obtain ⟨hk, rfl⟩ := List.getElem?_eq_some_iff.1 h
  rw [List.take_succ_eq_append_getElem hk, renSpls_append]
  congr 1

theorem any_take {p : Piece → Bool} {l : List Piece} {k : Nat} {x : Piece} (h : l[k]? = some x) : (l.take (k + 1)).any p = ((l.take k).any p || p x) := by
  obtain ⟨hk, rfl⟩ := List.getElem?_eq_some_iff.1 h
  rw [List.take_succ_eq_append_getElem hk, List.any_append, List.any_cons, List.any_nil, Bool.or_false]

set_option maxRecDepth 100000 in
set_option maxHeartbeats 4000000 in
theorem rename_any (s old name : ByteArray) (w : World) (hs : s.size ≤ 140737488355328) (ho : old.size ≤ 140737488355328) (hn : name.size ≤ 140737488355328) (hv : NumVars w) :
    Calls Tryz.prog 13 #[.string s, .string old, .string name] w fun e w' => e = .returned (.tuple #[.string ⟨(renameRes s old name).1.toArray⟩, .int .i64 (renameRes s old name).2]) ∧ Below w.heap.size w w' := by
  have HV := Lib.hid hv
  clear hv
  by_cases he : (lexTokens s).2.2 = 0
  · have HE := Lib.hid he
    have heb : ((lexTokens s).2.2 != 0) = false := by simpa using he
    clear he
    go_enter Tryz.func13, Tryz.ntmps13
    by_cases h1 : isRightP 1 old = true
    · by_cases h2 : isRightP 1 name = true
      · have H1 := Lib.hid h1
        have H2 := Lib.hid h2
        obtain ⟨k1, k2, k3, k4, k5⟩ := lexTokens_ok HE.out
        have K4 := Lib.hid k4
        have K5 := Lib.hid k5
        clear k1 k2 k3 k4 k5
        have hlen : (lexTokens s).1.length ≤ 900 := K4.out
        obtain ⟨i0, hi, hz0, hz1, hz2⟩ := info_parts info56
        go_wp2_with (first
          | (go_at_call 4; refine (tokens_any s _ hs HV.out).mono ?_; rintro e w1 ⟨v1, rfl, hb1, htok⟩; have hin := tokIn_of_own htok; obtain ⟨A, c, rfl, _⟩ := id hin; have HI1 := Lib.hid hin; clear hin htok)
          | (go_at_call 17; refine (keywords_any _).mono ?_; rintro e w2 ⟨rfl, rfl⟩; have HM := Lib.hid (KwMap.new w1); have HV1 := Lib.hid ((HV.out.keep hb1).alloc (.map (kwArr 30) 30)); have hz := w1.size_alloc (.map (kwArr 30) 30))
          | (go_at_call 38; refine (isName_any old _ _ ho HV1.out HM.out).mono ?_; rintro e w3 ⟨rfl, hb3⟩; have HM3 := Lib.hid (HM.out.below hb3 (by rw [hz]; omega)); have HV3 := Lib.hid (HV1.out.keep hb3))
          | (go_at_call 38; refine (isName_any name _ _ hn HV3.out HM3.out).mono ?_; rintro e w4 ⟨rfl, hb4⟩; have HI4 := Lib.hid ((((HI1.out.below ((Below.refl _ _).alloc (Nat.le_refl _) _)).more (by rw [hz]; omega)).below hb3 |>.more hb3.size).below hb4 |>.more hb4.size); have HB4 := Lib.hid ((((hb1.alloc hb1.size _).trans (hb3.mono (by rw [hz]; have := hb1.size; omega))).trans (hb4.mono (by have := hb3.size; have := hb1.size; rw [hz] at *; omega)))); clear hb1 hb3 hb4 HI1 HM HM3 HV1 HV3 hz))
        generalize hl : (lexTokens s).1 = l at HI4 K4 K5 hlen ⊢
        have HL := Lib.hid hl
        clear hl h1 h2
        go_loopw [12, 13, 39] (fun v tw i wr => ∃ (k : Nat) (t : Bool), k ≤ l.length ∧ i = .int .i64 k ∧ tw = .bool t ∧ Hid (t = (l.take k).any (fun t => decide (t.text = name))) ∧
          wr.ownsRow w4.heap.size 40 3 v (renSpls old name (l.take k)).length (splCells (renSpls old name (l.take k))) ∧ Below w4.heap.size w4 wr) (fun _ _ i _ => l.length - (intOf i).toNat)
        case atStart => exact ⟨0, false, by omega, rfl, rfl, Lib.hid rfl, World.ownsRow_nil _ _ _ _, Below.refl _ _⟩
        case round =>
          obtain ⟨k, t, hk, rfl, rfl, HT, hrow, hb⟩ := hrel
          by_cases hkl : k < l.length
          · obtain ⟨x, hx⟩ : ∃ x, l[k]? = some x := ⟨_, List.getElem?_eq_getElem hkl⟩
            obtain ⟨A', c', hA', hin⟩ := HI4.out
            obtain ⟨b, off, rfl, hB, g1, g2, g3⟩ := hin k x hx
            have HX := Lib.hid hx
            have d1 := (hb.cell (p := ⟨b, _, none⟩) hB).trans g1
            have d2 := (hb.cell (p := ⟨b, _, none⟩) hB).trans g2
            have d3 := (hb.cell (p := ⟨b, _, none⟩) hB).trans g3
            have hA2 := hA'
            have hpo := pcOrd_at _ _ _ _ _ K5.out hx
            clear g1 g2 g3 hx hin hA'
            cases hA2
            have hsz := hb.size
            have hrl : (renSpls old name (l.take k)).length ≤ k := by have := renSpls_length old name (l.take k); simp at this; omega
            obtain ⟨A3, c3, rfl⟩ := slice_of hrow
            by_cases he : x.text = old
            · have HO := Lib.hid he
              have heb2 : (x.text.toList == old.toList) = true := by rw [toList_beq]; simpa using he
              rw [he] at hpo
              clear he
              cases t
              all_goals go_wp2_with (at_builtin; refine wpList_append_own _ rfl _ _ 41 rfl w4.heap.size 40 i0 _ 3 32 Tryz.underlying41 hi hz0 hz1 hz2 rfl (by decide) _ _ _ rfl ((hrow.alloc _).alloc _) ⟨wr.heap.size + 1, 0, none⟩ 1 1 [.int .i64 x.at_, .int .i64 ((x.at_ : Int) + old.size), .string name] rfl rfl (by have h := cells_new (wr.alloc (.cells #[.int .u8 x.kind, .string x.text, .int .i64 x.at_] 35)) 40 [.int .i64 x.at_, .int .i64 ((x.at_ : Int) + old.size), .string name]; rw [World.size_alloc] at h; exact h) (by simp [Value.oneCell']) (by unfold maxLen; omega) (by omega) (by simp; omega) ?_; intro v' w5 hown' hgrow' _)
              all_goals have hb5 : Below w4.heap.size w4 w5 := ((hb.alloc hsz _).alloc (by simp; omega) _).grown hgrow' (by simp; omega) (fun k e => row_base hrow e)
              all_goals refine ⟨⟨k + 1, _, by omega, by go_num, rfl, Lib.hid (by rw [any_take HX.out, ← HT.out]; simp [toList_beq]), ?_, hb5⟩, by simp [intOf]; omega⟩
              all_goals (rw [renSpls_take HX.out, if_pos HO.out, splCells_append, List.length_append]; exact hown')
            · have HO := Lib.hid he
              have heb2 : (x.text.toList == old.toList) = false := by rw [toList_beq]; simpa using he
              clear he
              cases t
              all_goals go_wp2
              all_goals refine ⟨⟨k + 1, _, by omega, by go_num, rfl, Lib.hid (by rw [any_take HX.out, ← HT.out]; simp [toList_beq]), ?_, hb.alloc hsz _⟩, by simp [intOf]; omega⟩
              all_goals (rw [renSpls_take HX.out, if_neg HO.out, List.append_nil]; exact hrow.alloc _)
          · obtain rfl : k = l.length := by omega
            have hT := HT.out
            rw [List.take_length] at hT hrow
            have HT2 := Lib.hid hT
            have hRl := renSpls_length old name l
            have hsz := hb.size
            have hszw := HB4.out.size
            have HRo := Lib.hid (renSpls_right s.size old name l 0 K5.out)
            have HRt := Lib.hid (renSpls_text old name l)
            have hbase : renameRes s old name = if renSpls old name l = [] then ([], 7)
              else if l.any (fun t => decide (t.text = name)) = true then ([], 6)
              else if (planRes s (renSpls old name l)).2 ≠ 0 then ([], (planRes s (renSpls old name l)).2)
              else (afterB s 0 (chgs s 0 (renSpls old name l)), 0) := by
              unfold renameRes
              rw [if_neg (by rw [HE.out]; simp), if_neg (by rw [H1.out, H2.out]; simp), HL.out]
            have HBase := Lib.hid hbase
            have HBW := Lib.hid (HB4.out.trans (hb.mono hszw))
            clear hT hbase HT hb
            generalize hR : renSpls old name l = R at HBase HRo HRt hrow hRl ⊢
            clear hR
            obtain ⟨A3, c3, rfl⟩ := slice_of hrow
            by_cases h0 : R = []
            · have h0b : ((R.length : Int) == 0) = true := by rw [h0]; rfl
              have H0 := Lib.hid h0
              clear h0
              go_wp2
              go_ret2
              rw [HBase.out, if_pos H0.out]
              exact ⟨rfl, HBW.out⟩
            · have h0b : ((R.length : Int) == 0) = false := by
                have : R.length ≠ 0 := fun e => h0 (List.eq_nil_of_length_eq_zero e)
                simpa using this
              have H0 := Lib.hid h0
              clear h0
              cases t with
              | true =>
                go_wp2
                go_ret2
                rw [HBase.out, if_neg H0.out, if_pos HT2.out.symm]
                exact ⟨rfl, HBW.out⟩
              | false =>
                have hin := splIn_of_own hrow
                have HIN := Lib.hid hin
                have HSI := Lib.hid (splRight_in s.size R 0 (Int.le_refl 0) HRo.out (fun x hx => by rw [HRt.out x hx]; exact hn))
                clear hin
                by_cases hp : (planRes s R).2 = 0
                · have HP := Lib.hid hp
                  have hpb : ((planRes s R).2 != 0) = false := by simpa using hp
                  clear hp
                  go_wp2_with (go_at_call 39; refine (plan_any s _ R _ hs (by omega) HSI.out HIN.out).mono ?_; rintro e w6 ⟨v6, rfl, hb6, hrow6⟩; clear hrow)
                  have q3 : planRes s R = (chgs s 0 R, 0) ∧ (s.size : Int) + grown s 0 R ≤ 2500 := by
                    have := HP.out
                    unfold planRes at this ⊢
                    split at this
                    · cases this
                    · rename_i h3
                      rw [if_neg h3]
                      exact ⟨rfl, by omega⟩
                  have q2 := chgs_ord s R 0 0 (Int.le_refl 0) (by omega) HRo.out
                  rw [q3.1] at hrow6
                  have hci := chgIn_of_own hrow6
                  have HC := Lib.hid hci
                  have HQ := Lib.hid q2
                  have HP4 := Lib.hid q3
                  clear q3 q2 hci hrow6
                  go_wp2_with (go_at_call 40; refine (textAfter_any s _ (chgs s 0 R) _ hs (by rw [chgs_length]; omega) HQ.out.1 (by have h1 := HQ.out.2; have h2 := HP4.out.2; simp only [Int.toNat_zero] at h1; omega) HC.out).mono ?_; rintro e w7 ⟨rfl, hb7⟩)
                  go_ret2
                  rw [HBase.out, if_neg H0.out, if_neg (by rw [← HT2.out]; simp), if_neg (by rw [HP.out]; simp)]
                  exact ⟨rfl, (HBW.out.trans (hb6.mono (by omega))).trans (hb7.mono (by have := hb6.size; omega))⟩
                · have HP := Lib.hid hp
                  have hpb : ((planRes s R).2 != 0) = true := by simpa using hp
                  clear hp
                  go_wp2_with (go_at_call 39; refine (plan_any s _ R _ hs (by omega) HSI.out HIN.out).mono ?_; rintro e w6 ⟨v6, rfl, hb6, hrow6⟩; clear hrow)
                  go_ret2
                  rw [HBase.out, if_neg H0.out, if_neg (by rw [← HT2.out]; simp), if_pos HP.out]
                  exact ⟨rfl, HBW.out.trans (hb6.mono (by omega))⟩
      · have h1b : isRightP 1 old = true := h1
        have h2b : isRightP 1 name = false := by simpa using h2
        have H2 := Lib.hid h2b
        clear h2 h1
        go_wp2_with (first
          | (go_at_call 4; refine (tokens_any s _ hs HV.out).mono ?_; rintro e w1 ⟨v1, rfl, hb1, htok⟩; clear htok)
          | (go_at_call 17; refine (keywords_any _).mono ?_; rintro e w2 ⟨rfl, rfl⟩; have HM := Lib.hid (KwMap.new w1); have HV1 := Lib.hid ((HV.out.keep hb1).alloc (.map (kwArr 30) 30)); have hz := w1.size_alloc (.map (kwArr 30) 30))
          | (go_at_call 38; refine (isName_any old _ _ ho HV1.out HM.out).mono ?_; rintro e w3 ⟨rfl, hb3⟩; have HM3 := Lib.hid (HM.out.below hb3 (by rw [hz]; omega)); have HV3 := Lib.hid (HV1.out.keep hb3))
          | (go_at_call 38; refine (isName_any name _ _ hn HV3.out HM3.out).mono ?_; rintro e w4 ⟨rfl, hb4⟩; have HB4 := Lib.hid ((((hb1.alloc hb1.size _).trans (hb3.mono (by rw [hz]; have := hb1.size; omega))).trans (hb4.mono (by have := hb3.size; have := hb1.size; rw [hz] at *; omega)))); clear hb1 hb3 hb4 HM HM3 HV1 HV3 hz))
        go_ret2
        have hr : renameRes s old name = ([], 2) := by unfold renameRes; rw [if_neg (by rw [HE.out]; simp), if_pos (.inr H2.out)]
        rw [hr]
        exact ⟨rfl, HB4.out⟩
    · have h1b : isRightP 1 old = false := by simpa using h1
      have H1 := Lib.hid h1b
      clear h1
      go_wp2_with (first
        | (go_at_call 4; refine (tokens_any s _ hs HV.out).mono ?_; rintro e w1 ⟨v1, rfl, hb1, htok⟩; clear htok)
        | (go_at_call 17; refine (keywords_any _).mono ?_; rintro e w2 ⟨rfl, rfl⟩; have HM := Lib.hid (KwMap.new w1); have HV1 := Lib.hid ((HV.out.keep hb1).alloc (.map (kwArr 30) 30)); have hz := w1.size_alloc (.map (kwArr 30) 30))
        | (go_at_call 38; refine (isName_any old _ _ ho HV1.out HM.out).mono ?_; rintro e w3 ⟨rfl, hb3⟩; have HB3 := Lib.hid ((hb1.alloc hb1.size _).trans (hb3.mono (by rw [hz]; have := hb1.size; omega)))))
      go_ret2
      have hr : renameRes s old name = ([], 2) := by unfold renameRes; rw [if_neg (by rw [HE.out]; simp), if_pos (.inl H1.out)]
      rw [hr]
      exact ⟨rfl, HB3.out⟩
  · have HE := Lib.hid he
    have heb : ((lexTokens s).2.2 != 0) = true := by simpa using he
    clear he
    go_enter Tryz.func13, Tryz.ntmps13
    go_wp2_with (go_at_call 4; refine (tokens_any s _ hs HV.out).mono ?_; rintro e w1 ⟨v1, rfl, hb1, htok⟩)
    go_ret2
    have hr : renameRes s old name = ([], (lexTokens s).2.2) := by unfold renameRes; rw [if_pos HE.out]
    rw [hr]
    exact ⟨rfl, hb1⟩
end Go.Proofs.YtjadjmkbjolklaaGreatDoor
namespace Go.Proofs.YtjadjmkbjolklaaGreatDoor
open Go.RowKit

/-- What lex.Spot returns. -/
def spotRes (s : ByteArray) (k : Int) : (Int × Int) × Int :=
  if (textErr s).2 ≠ 0 then ((0, 0), (textErr s).2) else if k < 0 ∨ (s.size : Int) < k then ((0, 0), 3) else (((lineP s k.toNat : Int), (colP s k.toNat : Int)), 0)

theorem count_at (s : ByteArray) (k : Int) (w : World) (h0 : 0 ≤ k) (h1 : k ≤ s.size) :
    Calls Tryz.prog 18 #[.string (s.extract 0 k.toNat), .string ⟨#[10]⟩] w fun e w' => e = .returned (.int .i64 ((lineP s k.toNat : Int) - 1)) ∧ w = w' := by
  refine (Tryz.strings_Count_one _ 10 w).mono ?_
  rintro e w' ⟨rfl, rfl⟩
  refine ⟨?_, rfl⟩
  have := countP s k.toNat (by omega)
  rw [this]
  congr 2
  omega

theorem last_at (s : ByteArray) (k : Int) (w : World) (hs : s.size ≤ 140737488355328) (h0 : 0 ≤ k) (h1 : k ≤ s.size) :
    Calls Tryz.prog 19 #[.string (s.extract 0 k.toNat), .int .u8 10] w fun e w' => e = .returned (.int .i64 (k - (colP s k.toNat : Int))) ∧ w = w' := by
  have hz : (s.extract 0 k.toNat).size = k.toNat := by simp; omega
  refine (Tryz.strings_LastIndexByte _ 10 (by omega) w).mono ?_
  rintro e w' ⟨rfl, rfl⟩
  refine ⟨?_, rfl⟩
  have := lastIdx_col s k.toNat (by omega) k.toNat (Nat.le_refl _)
  unfold Lib.lastIndexByte
  rw [hz]
  congr 2
  omega

/-- A block that holds a spot. -/
def Box2 (W : World) (B : Nat) (x y : Int) : Prop := W.heap[B]? = some (.cells #[.int .i64 x, .int .i64 y] 27 (0, 0))

theorem Box2.lt {W : World} {B : Nat} {x y : Int} (h : Box2 W B x y) : B < W.heap.size := (Array.getElem?_eq_some_iff.1 h).1
theorem Box2.c0 {W : World} {B : Nat} {x y : Int} (h : Box2 W B x y) : W.cell? ⟨B, 0, none⟩ = some (.int .i64 x) := cell_of_row W B 0 _ 27 (0, 0) h
theorem Box2.c1 {W : World} {B : Nat} {x y : Int} (h : Box2 W B x y) : W.cell? ⟨B, 1, none⟩ = some (.int .i64 y) := cell_of_row W B 1 _ 27 (0, 0) h
theorem Box2.f0 {W : World} {B : Nat} {x y : Int} (h : Box2 W B x y) (i : Nat) : W.frozen? ⟨B, i, none⟩ = false := by simp [World.frozen?, show W.heap[B]? = _ from h]
theorem Box2.new (W : World) (x y : Int) : Box2 (W.alloc (.cells #[.int .i64 x, .int .i64 y] 27)) W.heap.size x y := World.alloc_heap_new W _
theorem Box2.below {W W' : World} {B n : Nat} {x y : Int} (h : Box2 W B x y) (hb : Below n W W') (hn : B < n) : Box2 W' B x y := (hb.block B hn).trans h
theorem Box2.set {W : World} {B : Nat} {x y : Int} (h : Box2 W B x y) (x' y' : Int) : Box2 ((W.setCell ⟨B, 0, none⟩ (.int .i64 x')).setCell ⟨B, 1, none⟩ (.int .i64 y')) B x' y' := by
  have h1 := heap_setCell_same W B 0 _ 27 (.int .i64 x') h
  exact heap_setCell_same _ B 1 _ 27 (.int .i64 y') h1
theorem Box2.c1' {W : World} {B : Nat} {x y : Int} (h : Box2 W B x y) (v : Value) : (W.setCell ⟨B, 0, none⟩ v).cell? ⟨B, 1, none⟩ = some (.int .i64 y) := by
  have h1 := heap_setCell_same W B 0 _ 27 v h
  exact cell_of_row _ B 1 _ 27 (0, 0) h1

theorem results_spot {tmps : Array Value} {W : World} {B : Nat} {x y e : Int} (h : Box2 W B x y) (t4 : tmps[4]?.getD undef = .pointer (some ⟨B, 0, none⟩)) (t5 : tmps[5]?.getD undef = .int .i64 e) :
    (results Tryz.f5 tmps).run Tryz.prog W = .ok (.tuple #[.agg #[.int .i64 x, .int .i64 y], .int .i64 e]) W := by
  have c0 := h.c0
  have c1 := h.c1
  simp [results, Tryz.results5, t4, t5, go_sem, loadVar, c0, c1]

set_option maxRecDepth 100000 in
set_option maxHeartbeats 1000000 in
theorem spot_any (s : ByteArray) (k : Int) (w : World) (hs : s.size ≤ 140737488355328) :
    Calls Tryz.prog 5 #[.string s, .int .i64 k] w fun e w' => e = .returned (.tuple #[.agg #[.int .i64 (spotRes s k).1.1, .int .i64 (spotRes s k).1.2], .int .i64 (spotRes s k).2]) ∧ Below w.heap.size w w' := by
  have hnew := Box2.new w 0 0
  have hbw := (Below.refl w.heap.size w).alloc (Nat.le_refl _) (.cells #[.int .i64 0, .int .i64 0] 27)
  have hz : (w.alloc (.cells #[.int .i64 0, .int .i64 0] 27)).heap.size = w.heap.size + 1 := by simp
  by_cases he : (textErr s).2 = 0
  · have HE := Lib.hid he
    have heb : ((textErr s).2 != 0) = false := by simpa using he
    clear he
    by_cases h0 : k < 0
    · go_enter Tryz.func5, Tryz.ntmps5
      go_wp2_with (go_at_call 15; refine (textError_any s _ (le_max hs)).mono ?_; rintro e w1 ⟨rfl, hb1⟩; have hx := hnew.below hb1 (by omega); have c0 := hx.c0; have c1 := hx.c1; have c1' := hx.c1'; have f0 := hx.f0)
      refine bodyPost_ret (results_spot (hx.set _ _) rfl rfl) rfl ?_
      have hr : spotRes s k = ((0, 0), 3) := by unfold spotRes; rw [if_neg (by rw [HE.out]; simp), if_pos (.inl h0)]
      rw [hr]
      exact ⟨rfl, ((hbw.trans (hb1.mono (by omega))).setCell (p := ⟨w.heap.size, 0, none⟩) (Nat.le_refl _) _).setCell (p := ⟨w.heap.size, 1, none⟩) (Nat.le_refl _) _⟩
    · by_cases h1 : (s.size : Int) < k
      · go_enter Tryz.func5, Tryz.ntmps5
        go_wp2_with (go_at_call 15; refine (textError_any s _ (le_max hs)).mono ?_; rintro e w1 ⟨rfl, hb1⟩; have hx := hnew.below hb1 (by omega); have c0 := hx.c0; have c1 := hx.c1; have c1' := hx.c1'; have f0 := hx.f0)
        refine bodyPost_ret (results_spot (hx.set _ _) rfl rfl) rfl ?_
        have hr : spotRes s k = ((0, 0), 3) := by unfold spotRes; rw [if_neg (by rw [HE.out]; simp), if_pos (.inr h1)]
        rw [hr]
        exact ⟨rfl, ((hbw.trans (hb1.mono (by omega))).setCell (p := ⟨w.heap.size, 0, none⟩) (Nat.le_refl _) _).setCell (p := ⟨w.heap.size, 1, none⟩) (Nat.le_refl _) _⟩
      · have q1 := lineP_pos s k.toNat
        have q2 := lineP_le s k.toNat
        have q3 := colP_pos s k.toNat
        have q4 := colP_le s k.toNat
        go_enter Tryz.func5, Tryz.ntmps5
        go_wp2_with (first
          | (go_at_call 15; refine (textError_any s _ (le_max hs)).mono ?_; rintro e w1 ⟨rfl, hb1⟩; have hx := hnew.below hb1 (by omega); have c0 := hx.c0; have c1 := hx.c1; have c1' := hx.c1'; have f0 := hx.f0)
          | (go_at_call 18; refine (count_at s k _ (by omega) (by omega)).mono ?_; rintro e w' ⟨rfl, rfl⟩)
          | (go_at_call 19; refine (last_at s k _ hs (by omega) (by omega)).mono ?_; rintro e w' ⟨rfl, rfl⟩))
        rw [show (1 + ((lineP s k.toNat : Int) - 1)) = lineP s k.toNat by omega, show (k - (k - (colP s k.toNat : Int))) = colP s k.toNat by omega]
        refine bodyPost_ret (results_spot (hx.set _ _) rfl rfl) rfl ?_
        have hr : spotRes s k = (((lineP s k.toNat : Int), (colP s k.toNat : Int)), 0) := by unfold spotRes; rw [if_neg (by rw [HE.out]; simp), if_neg (by omega)]
        rw [hr]
        exact ⟨rfl, ((hbw.trans (hb1.mono (by omega))).setCell (p := ⟨w.heap.size, 0, none⟩) (Nat.le_refl _) _).setCell (p := ⟨w.heap.size, 1, none⟩) (Nat.le_refl _) _⟩
  · have HE := Lib.hid he
    have heb : ((textErr s).2 != 0) = true := by simpa using he
    clear he
    go_enter Tryz.func5, Tryz.ntmps5
    go_wp2_with (go_at_call 15; refine (textError_any s _ (le_max hs)).mono ?_; rintro e w1 ⟨rfl, hb1⟩; have hx := hnew.below hb1 (by omega); have c0 := hx.c0; have c1 := hx.c1; have c1' := hx.c1'; have f0 := hx.f0)
    refine bodyPost_ret (results_spot (hx.set 0 0) rfl rfl) rfl ?_
    have hr : spotRes s k = ((0, 0), (textErr s).2) := by unfold spotRes; rw [if_pos HE.out]
    rw [hr]
    exact ⟨rfl, ((hbw.trans (hb1.mono (by omega))).setCell (p := ⟨w.heap.size, 0, none⟩) (Nat.le_refl _) _).setCell (p := ⟨w.heap.size, 1, none⟩) (Nat.le_refl _) _⟩
end Go.Proofs.YtjadjmkbjolklaaGreatDoor
namespace Go.Proofs.YtjadjmkbjolklaaGreatDoor
open Go.RowKit

set_option maxRecDepth 100000 in
set_option maxHeartbeats 1000000 in
theorem at_any (s : ByteArray) (line col : Int) (w : World) (hs : s.size ≤ 140737488355328) (hl : line ≤ 9223372036854775807) (hc : col ≤ 9223372036854775807) :
    Calls Tryz.prog 6 #[.string s, .agg #[.int .i64 line, .int .i64 col]] w fun e w' => ∃ r x, e = .returned (.tuple #[.int .i64 r, .int .i64 x]) ∧ AtSpec s line col r x ∧ Below w.heap.size w w' := by
  have hnew := Box2.new w line col
  have hbw := (Below.refl w.heap.size w).alloc (Nat.le_refl _) (.cells #[.int .i64 line, .int .i64 col] 27)
  have hz : (w.alloc (.cells #[.int .i64 line, .int .i64 col] 27)).heap.size = w.heap.size + 1 := by simp
  by_cases he : (textErr s).2 = 0
  · have HE := Lib.hid he
    have heb : ((textErr s).2 != 0) = false := by simpa using he
    clear he
    by_cases h0 : line < 1
    · go_enter Tryz.func6, Tryz.ntmps6
      go_wp2_with (go_at_call 15; refine (textError_any s _ (le_max hs)).mono ?_; rintro e w1 ⟨rfl, hb1⟩; have hx := hnew.below hb1 (by omega); have c0 := hx.c0; have c1 := hx.c1)
      go_ret2
      exact ⟨_, _, rfl, at_small HE.out (.inl h0), hbw.trans (hb1.mono (by omega))⟩
    · by_cases h1 : col < 1
      · go_enter Tryz.func6, Tryz.ntmps6
        go_wp2_with (go_at_call 15; refine (textError_any s _ (le_max hs)).mono ?_; rintro e w1 ⟨rfl, hb1⟩; have hx := hnew.below hb1 (by omega); have c0 := hx.c0; have c1 := hx.c1)
        go_ret2
        exact ⟨_, _, rfl, at_small HE.out (.inr h1), hbw.trans (hb1.mono (by omega))⟩
      · have q0 := lineEndP_le s 0 (Nat.zero_le _)
        go_enter Tryz.func6, Tryz.ntmps6
        go_wp2_with (first
          | (go_at_call 15; refine (textError_any s _ (le_max hs)).mono ?_; rintro e w1 ⟨rfl, hb1⟩; have hx := hnew.below hb1 (by omega); have c0 := hx.c0; have c1 := hx.c1)
          | (go_at_call 20; refine (lineEnd_any s 0 _ (le_max hs) (by omega) (by omega)).mono ?_; rintro e w' ⟨rfl, rfl⟩))
        have HB := Lib.hid (hbw.trans (hb1.mono (by omega)))
        go_loop [8, 9, 31] (fun f e i => ∃ (F i' : Nat), F ≤ s.size ∧ f = .int .i64 F ∧ e = .int .i64 (lineEndP s F) ∧ i = .int .i64 i' ∧ lineP s F = i' + 1 ∧ colP s F = 1 ∧ (i' : Int) ≤ line - 1) (fun _ _ i => (line - 1 - intOf i).toNat)
        case atStart => exact ⟨0, 0, by omega, rfl, rfl, rfl, rfl, rfl, by omega⟩
        case round =>
          obtain ⟨F, i', hF, rfl, rfl, rfl, hlp, hcp, hi'⟩ := hrel
          have r1 := lineEndP_le s F hF
          have r2 := lineEndP_ge s F
          by_cases hlt : (i' : Int) < line - 1
          · by_cases hend : lineEndP s F = s.size
            · have hb2 : ((lineEndP s F : Int) == s.size) = true := by simp; omega
              go_wp2
              go_ret2
              exact ⟨_, _, rfl, at_past HE.out hF hend (by omega), HB.out⟩
            · have hb2 : ((lineEndP s F : Int) == s.size) = false := by simp; omega
              have r3 := line_next s F hF (by omega)
              go_wp2_with (go_at_call 20; refine (lineEnd_any s ((lineEndP s F : Int) + 1) _ (le_max hs) (by omega) (by omega)).mono ?_; rintro e w' ⟨rfl, rfl⟩)
              exact ⟨⟨lineEndP s F + 1, i' + 1, by omega, by go_num, rfl, by go_num, by omega, r3.2, by omega⟩, by simp [intOf]; omega⟩
          · by_cases hw : (lineEndP s F : Int) - F < col - 1
            · go_wp2
              go_ret2
              exact ⟨_, _, rfl, at_wide HE.out hF (by omega) hcp hw, HB.out⟩
            · go_wp2
              go_ret2
              exact ⟨_, _, rfl, at_there HE.out hF (by omega) hcp (by omega) (by omega), HB.out⟩
  · have HE := Lib.hid he
    have heb : ((textErr s).2 != 0) = true := by simpa using he
    clear he
    go_enter Tryz.func6, Tryz.ntmps6
    go_wp2_with (go_at_call 15; refine (textError_any s _ (le_max hs)).mono ?_; rintro e w1 ⟨rfl, hb1⟩)
    go_ret2
    exact ⟨_, _, rfl, .inl ⟨HE.out, rfl, rfl⟩, hbw.trans (hb1.mono (by omega))⟩
end Go.Proofs.YtjadjmkbjolklaaGreatDoor
