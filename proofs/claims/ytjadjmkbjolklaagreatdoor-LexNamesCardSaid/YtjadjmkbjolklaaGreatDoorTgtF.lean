/- The contracts of what Tight and Pairs of both sides ask of tokens: runTogether, apart, closing, short, listError, tokensError. -/
import Derived.Test.YtjadjmkbjolklaaGreatDoorTgtA
import Derived.Test.YtjadjmkbjolklaaGreatDoorRen
namespace Go.Proofs.YtjadjmkbjolklaaGreatDoor
open Go.RowKit

theorem toList_lit (s : ByteArray) (l : List UInt8) : (s.toList == l) = decide (s = ⟨l.toArray⟩) := by
  have h := toList_beq s ⟨l.toArray⟩
  have e : (⟨l.toArray⟩ : ByteArray).toList = l := by rw [Lib.toList_data]
  rwa [e] at h

theorem glue_eq (x y : Tk) : glue x y = ((x.kind != 4) && (y.kind != 4) || (x.text.toList == [58]) && (y.text.toList == [61])) := by
  rw [toList_lit, toList_lit]
  unfold glue
  by_cases h1 : x.kind = 4 <;> by_cases h2 : y.kind = 4 <;> simp [h1, h2]

set_option maxRecDepth 100000 in
set_option maxHeartbeats 1000000 in
theorem glue_any (x y : Tk) (w : World) :
    Calls Tryz.prog 22 #[.agg #[.int .u8 x.kind, .string x.text, .int .i64 x.at_], .agg #[.int .u8 y.kind, .string y.text, .int .i64 y.at_]] w fun e w' => e = .returned (.bool (glue x y)) ∧ Below w.heap.size w w' := by
  have h1 := (Box3.new w x.kind x.text x.at_).below ((Below.refl _ _).alloc (Nat.le_refl _) (.cells #[.int .u8 y.kind, .string y.text, .int .i64 y.at_] 35)) (by simp)
  have h2 := Box3.new (w.alloc (.cells #[.int .u8 x.kind, .string x.text, .int .i64 x.at_] 35)) y.kind y.text y.at_
  rw [World.size_alloc] at h2
  have c0 := h1.c0
  have c1 := h1.c1
  have d0 := h2.c0
  have d1 := h2.c1
  have HB := Lib.hid (((Below.refl w.heap.size w).alloc (Nat.le_refl _) (.cells #[.int .u8 x.kind, .string x.text, .int .i64 x.at_] 35)).alloc (by simp) (.cells #[.int .u8 y.kind, .string y.text, .int .i64 y.at_] 35))
  have HG := Lib.hid (glue_eq x y)
  clear h1 h2
  cases hq1 : (x.kind != 4) <;> cases hq2 : (y.kind != 4) <;> cases hq3 : (x.text.toList == [58]) <;> cases hq4 : (y.text.toList == [61])
  all_goals
    go_enter Tryz.func22, Tryz.ntmps22
    go_wp2
    go_ret
    exact ⟨ret_bool (by rw [HG.out]; simp [hq1, hq2, hq3, hq4]), HB.out⟩

/-- What closes a bracket; nothing of what opens none. -/
def clsP (x : Tk) : ByteArray := if x.kind = 4 ∧ x.text = ⟨#[40]⟩ then ⟨#[41]⟩ else if x.kind = 4 ∧ x.text = ⟨#[123]⟩ then ⟨#[125]⟩ else ⟨#[]⟩

theorem ret_strb {a b : ByteArray} (h : a = b) : Ending.returned (.string a) = .returned (.string b) := by rw [h]

/-- Are the tokens few, and short? -/
def shortB (l : List Tk) : Bool := l.all (fun x => decide (x.text.size ≤ 100)) && decide (l.length ≤ 1000)

theorem all_step {α : Type} (p : α → Bool) (l : List α) (k : Nat) (x : α) (h : l[k]? = some x) : (l.drop k).all p = (p x && (l.drop (k + 1)).all p) := by
  obtain ⟨hk, rfl⟩ := List.getElem?_eq_some_iff.1 h
  rw [List.drop_eq_getElem_cons hk, List.all_cons]

end Go.Proofs.YtjadjmkbjolklaaGreatDoor
