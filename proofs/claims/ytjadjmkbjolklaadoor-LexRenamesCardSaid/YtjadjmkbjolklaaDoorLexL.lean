/- The contracts of lex.planAny, textAfter, Apply. -/
import Derived.Test.YtjadjmkbjolklaaDoorLexK
import Derived.Test.YtjadjmkbjolklaaDoorLexJ
import Derived.Test.YtjadjmkbjolklaaDoorBld
namespace Go.Proofs.YtjadjmkbjolklaaDoor
open Go.RowKit

def planAnyRes (s : ByteArray) (l : List Spl) : List Chg × Int :=
  if (textErr s).2 ≠ 0 then ([], (textErr s).2) else if splErr s l ≠ 0 then ([], splErr s l) else planRes s l

theorem splErr_ok {s : ByteArray} {l : List Spl} (h : splErr s l = 0) : l.length ≤ 40 ∧ splRight s.size 0 l = true ∧ splBad l = false := by
  unfold splErr at h
  split at h
  · cases h
  · split at h
    · cases h
    · split at h
      · cases h
      · exact ⟨by omega, by simpa using ‹¬ splRight s.size 0 l = false›, by simpa using ‹¬ splBad l = true›⟩

theorem row_less {W : World} {n₀ n₁ : Nat} {e : TypeId} {size k : Nat} {v : Value} {xs : List Value} (h : W.ownsRow n₀ e size v k xs) (hn : n₁ ≤ n₀) : W.ownsRow n₁ e size v k xs := by
  refine ⟨h.1, ?_⟩
  rcases h.2 with h2 | ⟨g, cap, cur, rfl, hb, hr⟩
  · exact .inl h2
  · exact .inr ⟨g, cap, cur, rfl, by omega, hr⟩

set_option maxRecDepth 100000 in
set_option maxHeartbeats 1000000 in
theorem planAny_any (s : ByteArray) (v : Value) (l : List Spl) (w : World) (hs : s.size ≤ 140737488355328) (hl : l.length ≤ 140737488355328) (ht : ∀ x ∈ l, x.text.size ≤ 140737488355328) (hv : SplIn w w.heap.size v l) :
    Calls Tryd.prog 68 #[.string s, v] w fun e w' => ∃ v', e = .returned (.tuple #[v', .int .i64 (planAnyRes s l).2]) ∧ Below w.heap.size w w' ∧ w'.ownsRow w.heap.size 102 5 v' (planAnyRes s l).1.length (chgCells (planAnyRes s l).1) := by
  have HV := Lib.hid hv
  have HT := Lib.hid ht
  obtain ⟨A, c, rfl, _⟩ := hv
  clear ht
  have hl1 : l.length + 0 ≤ 140737488355328 := hl
  by_cases he : (textErr s).2 = 0
  · have HE := Lib.hid he
    have heb : ((textErr s).2 != 0) = false := by simpa using he
    clear he
    by_cases hp : splErr s l = 0
    · have HP := Lib.hid hp
      have hpb : (splErr s l != 0) = false := by simpa using hp
      clear hp
      go_enter Tryd.func68, Tryd.ntmps68
      go_wp2_with (first
        | (go_at_call 48; refine (textError_any s _ (le_max hs)).mono ?_; rintro e w1 ⟨rfl, hb1⟩)
        | (go_at_call 101; refine (spliceError_any s _ l _ hs hl HT.out ((HV.out.below hb1).more hb1.size)).mono ?_; rintro e w2 ⟨rfl, hb2⟩)
        | (go_at_call 81; refine (plan_any s _ l _ hs (by have := (splErr_ok HP.out).1; omega) (splRight_in s.size l 0 (Int.le_refl 0) (splErr_ok HP.out).2.1 HT.out) (((HV.out.below hb1).more hb1.size).below hb2 |>.more hb2.size)).mono ?_; rintro e w3 ⟨v', rfl, hb3, hrow⟩))
      go_ret2
      have hr : planAnyRes s l = planRes s l := by unfold planAnyRes; rw [if_neg (by rw [HE.out]; simp), if_neg (by rw [HP.out]; simp)]
      rw [hr]
      exact ⟨_, rfl, (hb1.trans (hb2.mono hb1.size)).trans (hb3.mono (Nat.le_trans hb1.size hb2.size)), row_less hrow (Nat.le_trans hb1.size hb2.size)⟩
    · have HP := Lib.hid hp
      have hpb : (splErr s l != 0) = true := by simpa using hp
      clear hp
      go_enter Tryd.func68, Tryd.ntmps68
      go_wp2_with (first
        | (go_at_call 48; refine (textError_any s _ (le_max hs)).mono ?_; rintro e w1 ⟨rfl, hb1⟩)
        | (go_at_call 101; refine (spliceError_any s _ l _ hs hl HT.out ((HV.out.below hb1).more hb1.size)).mono ?_; rintro e w2 ⟨rfl, hb2⟩))
      go_ret2
      have hr : planAnyRes s l = ([], splErr s l) := by unfold planAnyRes; rw [if_neg (by rw [HE.out]; simp), if_pos HP.out]
      rw [hr]
      exact ⟨_, rfl, hb1.trans (hb2.mono hb1.size), World.ownsRow_nil _ _ _ _⟩
  · have HE := Lib.hid he
    have heb : ((textErr s).2 != 0) = true := by simpa using he
    clear he
    go_enter Tryd.func68, Tryd.ntmps68
    go_wp2_with (go_at_call 48; refine (textError_any s _ (le_max hs)).mono ?_; rintro e w1 ⟨rfl, hb1⟩)
    go_ret2
    have hr : planAnyRes s l = ([], (textErr s).2) := by unfold planAnyRes; rw [if_pos HE.out]
    rw [hr]
    exact ⟨_, rfl, hb1, World.ownsRow_nil _ _ _ _⟩

/-- A slice value that holds changes, in a block below B. -/
def ChgIn (W : World) (B : Nat) (v : Value) (l : List Chg) : Prop :=
  ∃ A c, v = .slice A l.length c ∧ ∀ i (x : Chg), l[i]? = some x → ∃ b off, A = some ⟨b, off, none⟩ ∧ b < B ∧
    W.cell? ⟨b, off + i * 5, none⟩ = some (.int .i64 x.from_) ∧ W.cell? ⟨b, off + i * 5 + 1, none⟩ = some (.int .i64 x.to_) ∧ W.cell? ⟨b, off + i * 5 + 2, none⟩ = some (.string x.text) ∧
    W.cell? ⟨b, off + i * 5 + 3, none⟩ = some (.string x.out) ∧ W.cell? ⟨b, off + i * 5 + 4, none⟩ = some (.int .i64 x.at_)

theorem chgCells_get : ∀ (l : List Chg) (i : Nat) (x : Chg), l[i]? = some x → ∀ j u, x.cells5[j]? = some u → (chgCells l)[i * 5 + j]? = some u
  | [], i, x, h, _, _, _ => by simp at h
  | y :: r, 0, x, h, j, u, hj => by
    simp only [List.getElem?_cons_zero, Option.some.injEq] at h
    subst h
    show (y.cells5 ++ chgCells r)[0 * 5 + j]? = some u
    rw [List.getElem?_append_left (by have := (List.getElem?_eq_some_iff.1 hj).1; omega)]
    simpa using hj
  | y :: r, i + 1, x, h, j, u, hj => by
    have ih := chgCells_get r i x (by simpa using h) j u hj
    show (y.cells5 ++ chgCells r)[(i + 1) * 5 + j]? = some u
    have h5 : y.cells5.length = 5 := rfl
    rw [List.getElem?_append_right (by omega), h5, show (i + 1) * 5 + j - 5 = i * 5 + j by omega]
    exact ih

theorem row_at {W : World} {n₀ : Nat} {e : TypeId} {size k : Nat} {v : Value} {xs : List Value} (h : W.ownsRow n₀ e size v k xs) :
    ∃ A c, v = .slice A k c ∧ (xs ≠ [] → ∃ b, A = some ⟨b, 0, none⟩ ∧ b < W.heap.size ∧ ∀ j u, xs[j]? = some u → W.cell? ⟨b, j, none⟩ = some u) := by
  rcases h.2 with ⟨rfl, rfl⟩ | ⟨g, cap, cur, rfl, hb, hg, hc1, hc2, hc3, hc4⟩
  · have hx : xs = [] := List.eq_nil_of_length_eq_zero (by simpa using h.1)
    exact ⟨_, _, rfl, fun hne => absurd hx hne⟩
  · refine ⟨_, _, rfl, fun _ => ⟨g, rfl, (Array.getElem?_eq_some_iff.1 hg).1, fun j u hj => ?_⟩⟩
    rw [cell_of_row W g j cur e (0, 0) hg, ← Array.getElem?_toList]
    rw [← hc4] at hj
    rw [List.getElem?_take] at hj
    split at hj
    · exact hj
    · cases hj

theorem chgIn_of_own {W : World} {n₀ : Nat} {v : Value} {l : List Chg} (h : W.ownsRow n₀ 102 5 v l.length (chgCells l)) : ChgIn W W.heap.size v l := by
  obtain ⟨A, c, rfl, hA⟩ := row_at h
  refine ⟨A, c, rfl, fun i x hx => ?_⟩
  have hne : chgCells l ≠ [] := by
    intro e
    have := chgCells_get l i x hx 0 _ rfl
    rw [e] at this
    simp at this
  obtain ⟨b, rfl, hb, hc⟩ := hA hne
  refine ⟨b, 0, rfl, hb, ?_, ?_, ?_, ?_, ?_⟩
  · have := hc _ _ (chgCells_get l i x hx 0 _ rfl); simpa using this
  · have := hc _ _ (chgCells_get l i x hx 1 _ rfl); simpa using this
  · have := hc _ _ (chgCells_get l i x hx 2 _ rfl); simpa using this
  · have := hc _ _ (chgCells_get l i x hx 3 _ rfl); simpa using this
  · have := hc _ _ (chgCells_get l i x hx 4 _ rfl); simpa using this
end Go.Proofs.YtjadjmkbjolklaaDoor
