/- The contracts of what Tight and Pairs of both sides ask of tokens: runTogether, apart, closing, short, listError, tokensError. -/
import Derived.Test.YtjadjmkbjolklaaDoorTgtA
import Derived.Test.YtjadjmkbjolklaaDoorRen
namespace Go.Proofs.YtjadjmkbjolklaaDoor
open Go.RowKit

theorem toList_lit (s : ByteArray) (l : List UInt8) : (s.toList == l) = decide (s = ⟨l.toArray⟩) := by
  have h := toList_beq s ⟨l.toArray⟩
  have e : (⟨l.toArray⟩ : ByteArray).toList = l := by rw [Lib.toList_data]
  rwa [e] at h

theorem glue_eq (x y : Tk) : glue x y = ((x.kind != 4) && (y.kind != 4) || (x.text.toList == [58]) && (y.text.toList == [61])) := by
  rw [toList_lit, toList_lit]
  unfold glue
  by_cases h1 : x.kind = 4 <;> by_cases h2 : y.kind = 4 <;> simp [h1, h2]

set_option maxRecDepth 100000 in
set_option maxHeartbeats 1000000 in
theorem glue_any (x y : Tk) (w : World) :
    Calls Tryd.prog 59 #[.agg #[.int .u8 x.kind, .string x.text, .int .i64 x.at_], .agg #[.int .u8 y.kind, .string y.text, .int .i64 y.at_]] w fun e w' => e = .returned (.bool (glue x y)) ∧ Below w.heap.size w w' := by
  have h1 := (Box3.new w x.kind x.text x.at_).below ((Below.refl _ _).alloc (Nat.le_refl _) (.cells #[.int .u8 y.kind, .string y.text, .int .i64 y.at_] 63)) (by simp)
  have h2 := Box3.new (w.alloc (.cells #[.int .u8 x.kind, .string x.text, .int .i64 x.at_] 63)) y.kind y.text y.at_
  rw [World.size_alloc] at h2
  have c0 := h1.c0
  have c1 := h1.c1
  have d0 := h2.c0
  have d1 := h2.c1
  have HB := Lib.hid (((Below.refl w.heap.size w).alloc (Nat.le_refl _) (.cells #[.int .u8 x.kind, .string x.text, .int .i64 x.at_] 63)).alloc (by simp) (.cells #[.int .u8 y.kind, .string y.text, .int .i64 y.at_] 63))
  have HG := Lib.hid (glue_eq x y)
  clear h1 h2
  cases hq1 : (x.kind != 4) <;> cases hq2 : (y.kind != 4) <;> cases hq3 : (x.text.toList == [58]) <;> cases hq4 : (y.text.toList == [61])
  all_goals
    go_enter Tryd.func59, Tryd.ntmps59
    go_wp2
    go_ret
    exact ⟨ret_bool (by rw [HG.out]; simp [hq1, hq2, hq3, hq4]), HB.out⟩

set_option maxRecDepth 100000 in
set_option maxHeartbeats 1000000 in
theorem apart_any (x y : Tk) (w : World) :
    Calls Tryd.prog 65 #[.agg #[.int .u8 x.kind, .string x.text, .int .i64 x.at_], .agg #[.int .u8 y.kind, .string y.text, .int .i64 y.at_]] w fun e w' => e = .returned (.bool (glue x y)) ∧ Below w.heap.size w w' := by
  have h1 := (Box3.new w x.kind x.text x.at_).below ((Below.refl _ _).alloc (Nat.le_refl _) (.cells #[.int .u8 y.kind, .string y.text, .int .i64 y.at_] 63)) (by simp)
  have h2 := Box3.new (w.alloc (.cells #[.int .u8 x.kind, .string x.text, .int .i64 x.at_] 63)) y.kind y.text y.at_
  rw [World.size_alloc] at h2
  have c0 := h1.c0
  have c1 := h1.c1
  have d0 := h2.c0
  have d1 := h2.c1
  have HB := Lib.hid (((Below.refl w.heap.size w).alloc (Nat.le_refl _) (.cells #[.int .u8 x.kind, .string x.text, .int .i64 x.at_] 63)).alloc (by simp) (.cells #[.int .u8 y.kind, .string y.text, .int .i64 y.at_] 63))
  have HG := Lib.hid (glue_eq x y)
  clear h1 h2
  cases hq1 : (x.kind != 4) <;> cases hq2 : (y.kind != 4) <;> cases hq3 : (x.text.toList == [58]) <;> cases hq4 : (y.text.toList == [61])
  all_goals
    go_enter Tryd.func65, Tryd.ntmps65
    go_wp2
    go_ret
    exact ⟨ret_bool (by rw [HG.out]; simp [hq1, hq2, hq3, hq4]), HB.out⟩

/-- What closes a bracket; nothing of what opens none. -/
def clsP (x : Tk) : ByteArray := if x.kind = 4 ∧ x.text = ⟨#[40]⟩ then ⟨#[41]⟩ else if x.kind = 4 ∧ x.text = ⟨#[123]⟩ then ⟨#[125]⟩ else ⟨#[]⟩

theorem ret_strb {a b : ByteArray} (h : a = b) : Ending.returned (.string a) = .returned (.string b) := by rw [h]

set_option maxRecDepth 100000 in
set_option maxHeartbeats 1000000 in
theorem closing_any (x : Tk) (w : World) :
    Calls Tryd.prog 67 #[.agg #[.int .u8 x.kind, .string x.text, .int .i64 x.at_]] w fun e w' => e = .returned (.string (clsP x)) ∧ Below w.heap.size w w' := by
  have h1 := Box3.new w x.kind x.text x.at_
  have c0 := h1.c0
  have c1 := h1.c1
  have HB := Lib.hid ((Below.refl w.heap.size w).alloc (Nat.le_refl _) (.cells #[.int .u8 x.kind, .string x.text, .int .i64 x.at_] 63))
  clear h1
  have e1 := toList_lit x.text [40]
  have e2 := toList_lit x.text [123]
  by_cases hk : x.kind = 4
  · have q0 : (x.kind == 4) = true := by simpa using hk
    by_cases t1 : x.text = ⟨#[40]⟩
    · have q1 : (x.text.toList == [40]) = true := by rw [e1]; exact decide_eq_true t1
      have HR := Lib.hid (show clsP x = ⟨#[41]⟩ by unfold clsP; rw [if_pos ⟨hk, t1⟩])
      clear e1 e2 hk t1
      go_enter Tryd.func67, Tryd.ntmps67
      go_wp2
      go_ret
      exact ⟨ret_strb HR.out.symm, HB.out⟩
    · have q1 : (x.text.toList == [40]) = false := by rw [e1]; exact decide_eq_false t1
      by_cases t2 : x.text = ⟨#[123]⟩
      · have q2 : (x.text.toList == [123]) = true := by rw [e2]; exact decide_eq_true t2
        have HR := Lib.hid (show clsP x = ⟨#[125]⟩ by unfold clsP; rw [if_neg (fun h => t1 h.2), if_pos ⟨hk, t2⟩])
        clear e1 e2 hk t1 t2
        go_enter Tryd.func67, Tryd.ntmps67
        go_wp2
        go_ret
        exact ⟨ret_strb HR.out.symm, HB.out⟩
      · have q2 : (x.text.toList == [123]) = false := by rw [e2]; exact decide_eq_false t2
        have HR := Lib.hid (show clsP x = ⟨#[]⟩ by unfold clsP; rw [if_neg (fun h => t1 h.2), if_neg (fun h => t2 h.2)])
        clear e1 e2 hk t1 t2
        go_enter Tryd.func67, Tryd.ntmps67
        go_wp2
        go_ret
        exact ⟨ret_strb HR.out.symm, HB.out⟩
  · have q0 : (x.kind == 4) = false := by simpa using hk
    have HR := Lib.hid (show clsP x = ⟨#[]⟩ by unfold clsP; rw [if_neg (fun h => hk h.1), if_neg (fun h => hk h.1)])
    clear e1 e2 hk
    go_enter Tryd.func67, Tryd.ntmps67
    go_wp2
    go_ret
    exact ⟨ret_strb HR.out.symm, HB.out⟩

/-- Are the tokens few, and short? -/
def shortB (l : List Tk) : Bool := l.all (fun x => decide (x.text.size ≤ 100)) && decide (l.length ≤ 1000)

theorem all_step {α : Type} (p : α → Bool) (l : List α) (k : Nat) (x : α) (h : l[k]? = some x) : (l.drop k).all p = (p x && (l.drop (k + 1)).all p) := by
  obtain ⟨hk, rfl⟩ := List.getElem?_eq_some_iff.1 h
  rw [List.drop_eq_getElem_cons hk, List.all_cons]

set_option maxRecDepth 100000 in
set_option maxHeartbeats 1000000 in
theorem short_any (v : Value) (l : List Tk) (w : World) (hl : l.length ≤ 140737488355328) (ht : ∀ x ∈ l, x.text.size ≤ 140737488355328) (hv : TkIn w w.heap.size v l) :
    Calls Tryd.prog 27 #[v] w fun e w' => e = .returned (.bool (shortB l)) ∧ w' = w := by
  have HT := Lib.hid ht
  obtain ⟨A, c, rfl, hA⟩ := hv
  have HA := Lib.hid hA
  clear ht hA
  go_enter Tryd.func27, Tryd.ntmps27
  go_wp2
  go_loop [3] (fun i => ∃ (k : Nat), k ≤ l.length ∧ i = .int .i64 k ∧ Hid (l.all (fun x => decide (x.text.size ≤ 100)) = (l.drop k).all (fun x => decide (x.text.size ≤ 100)))) (fun i => l.length - (intOf i).toNat)
  case atStart => exact ⟨0, by omega, rfl, Lib.hid rfl⟩
  case round =>
    obtain ⟨k, hk, rfl, HK⟩ := hrel
    by_cases hlt : k < l.length
    · obtain ⟨x, hx⟩ : ∃ x, l[k]? = some x := ⟨_, List.getElem?_eq_getElem hlt⟩
      obtain ⟨b, off, rfl, hB, q1, q2, q3⟩ := HA.out k x hx
      have hx4 : x.text.size ≤ 140737488355328 := HT.out x (List.mem_of_getElem? hx)
      have HS := Lib.hid (all_step (fun x : Tk => decide (x.text.size ≤ 100)) l k x hx)
      clear hx q1 q3
      by_cases h30 : 100 < x.text.size
      · go_wp2
        go_ret
        refine ⟨ret_bool ?_, rfl⟩
        unfold shortB
        rw [HK.out, HS.out, decide_eq_false (by omega)]
        rfl
      · go_wp2
        go_round
        case rel =>
          refine ⟨k + 1, by omega, by go_num, Lib.hid ?_⟩
          rw [HK.out, HS.out, decide_eq_true (by omega), Bool.true_and]
        case measure => simp [intOf]; omega
    · have HE := Lib.hid (show l.all (fun x => decide (x.text.size ≤ 100)) = true by rw [HK.out, List.drop_eq_nil_of_le (by omega)]; rfl)
      go_wp2
      go_ret
      refine ⟨ret_bool ?_, rfl⟩
      unfold shortB
      rw [HE.out, Bool.true_and]
      by_cases h : l.length ≤ 1000
      · rw [decide_eq_true h, decide_eq_true (by omega)]
      · rw [decide_eq_false h, decide_eq_false (by omega)]

set_option maxRecDepth 100000 in
set_option maxHeartbeats 1000000 in
theorem tokensError_any (v : Value) (l : List Tk) (w : World) (hl : l.length ≤ 140737488355328) (ht : ∀ x ∈ l, x.text.size ≤ 140737488355328) (hv : TkIn w w.heap.size v l) :
    Calls Tryd.prog 64 #[v] w fun e w' => e = .returned (.int .i64 (listErr l)) ∧ Below w.heap.size w w' := by
  have HT := Lib.hid ht
  obtain ⟨A, c, rfl, hA⟩ := hv
  have HA := Lib.hid hA
  clear ht hA
  by_cases h9 : 900 < l.length
  · have HR := Lib.hid (show listErr l = 5 by unfold listErr; rw [if_pos h9])
    go_enter Tryd.func64, Tryd.ntmps64
    go_wp2
    go_ret
    exact ⟨ret_int HR.out.symm, Below.refl _ _⟩
  · have HR := Lib.hid (show listErr l = if l.all rightT = true then 0 else 2 by unfold listErr; rw [if_neg h9])
    go_enter Tryd.func64, Tryd.ntmps64
    go_wp2
    go_loopw [3] (fun i wr => ∃ (k : Nat), k ≤ l.length ∧ i = .int .i64 k ∧ Hid (l.all rightT = (l.drop k).all rightT) ∧ Hid (Below w.heap.size w wr)) (fun i _ => l.length - (intOf i).toNat)
    case atStart => exact ⟨0, by omega, rfl, Lib.hid rfl, Lib.hid (Below.refl _ _)⟩
    case round =>
      obtain ⟨k, hk, rfl, HK, HB⟩ := hrel
      by_cases hlt : k < l.length
      · obtain ⟨x, hx⟩ : ∃ x, l[k]? = some x := ⟨_, List.getElem?_eq_getElem hlt⟩
        obtain ⟨b, off, rfl, hB, g1, g2, g3⟩ := HA.out k x hx
        have hx4 : x.text.size ≤ 140737488355328 := HT.out x (List.mem_of_getElem? hx)
        have d1 := (HB.out.cell (p := ⟨b, _, none⟩) hB).trans g1
        have d2 := (HB.out.cell (p := ⟨b, _, none⟩) hB).trans g2
        have d3 := (HB.out.cell (p := ⟨b, _, none⟩) hB).trans g3
        have HS := Lib.hid (all_step rightT l k x hx)
        have C99 : Hid (∀ w, Calls Tryd.prog 99 #[.agg #[.int .u8 x.kind, .string x.text, .int .i64 x.at_]] w fun e w' => e = .returned (.bool (rightT x)) ∧ Below w.heap.size w w') := Lib.hid (fun w => refIsRight_any x.kind x.at_ x.text w hx4)
        clear g1 g2 g3 hx
        cases hr : rightT x
        · rw [hr] at HS C99
          go_wp2_with (go_at_call 99; refine (C99.out _).mono ?_; rintro e w2 ⟨rfl, hb2⟩; have HB2 := Lib.hid (HB.out.trans (hb2.mono HB.out.size)); clear hb2)
          go_ret
          refine ⟨ret_int ?_, HB2.out⟩
          rw [HR.out, HK.out, HS.out]
          rfl
        · rw [hr] at HS C99
          go_wp2_with (go_at_call 99; refine (C99.out _).mono ?_; rintro e w2 ⟨rfl, hb2⟩; have HB2 := Lib.hid (HB.out.trans (hb2.mono HB.out.size)); clear hb2)
          go_roundw
          case rel => exact ⟨k + 1, by omega, by go_num, Lib.hid (by rw [HK.out, HS.out, Bool.true_and]), HB2⟩
          case measure => simp [intOf]; omega
      · have HE := Lib.hid (show l.all rightT = true by rw [HK.out, List.drop_eq_nil_of_le (by omega)]; rfl)
        go_wp2
        go_ret
        refine ⟨ret_int ?_, HB.out⟩
        rw [HR.out, HE.out]
        rfl
end Go.Proofs.YtjadjmkbjolklaaDoor
