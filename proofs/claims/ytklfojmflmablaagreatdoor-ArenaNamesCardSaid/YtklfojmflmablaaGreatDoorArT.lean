/- Arenas in memory; package arena: the places of an arena. -/
import Derived.Test.YtklfojmflmablaaGreatDoorArP
namespace Go.Proofs.YtklfojmflmablaaGreatDoor
open Go Go.RowKit Go.Shelf
attribute [local go_sem] Oper.semAt_some

/-- A slice value that holds base types, in a block below B. -/
def BsIn (W : World) (B : Nat) (v : Value) (l : List Bs) : Prop :=
  ∃ A c, v = .slice A l.length c ∧ ∀ i (x : Bs), l[i]? = some x → ∃ b off, A = some ⟨b, off, none⟩ ∧ b < B ∧
    W.cell? ⟨b, off + i * 2, none⟩ = some (.bool x.cell) ∧ W.cell? ⟨b, off + i * 2 + 1, none⟩ = some (.int .i64 x.n)
theorem BsIn.more {W : World} {B B' : Nat} {v : Value} {l : List Bs} (h : BsIn W B v l) (hB : B ≤ B') : BsIn W B' v l := by
  obtain ⟨A, c, rfl, hA⟩ := h
  refine ⟨A, c, rfl, fun i x hx => ?_⟩
  obtain ⟨b, off, rfl, h0, h1⟩ := hA i x hx
  exact ⟨b, off, rfl, by omega, h1⟩
theorem BsIn.below {W W' : World} {B : Nat} {v : Value} {l : List Bs} (h : BsIn W B v l) (hb : ∀ k, k < B → W'.heap[k]? = W.heap[k]?) : BsIn W' B v l := by
  obtain ⟨A, c, rfl, hA⟩ := h
  refine ⟨A, c, rfl, fun i x hx => ?_⟩
  obtain ⟨b, off, rfl, hB, h1, h2⟩ := hA i x hx
  exact ⟨b, off, rfl, hB, (World.cell?_of_block (hb b hB)).trans h1, (World.cell?_of_block (hb b hB)).trans h2⟩

/-- A slice value that holds types, in a block below B. -/
def TyIn (W : World) (B : Nat) (v : Value) (l : List Ty) : Prop :=
  ∃ A c, v = .slice A l.length c ∧ ∀ i (x : Ty), l[i]? = some x → ∃ b off pv, A = some ⟨b, off, none⟩ ∧ b < B ∧ BsIn W B pv x.params ∧
    W.cell? ⟨b, off + i * 3, none⟩ = some pv ∧ W.cell? ⟨b, off + i * 3 + 1, none⟩ = some (.bool x.result.cell) ∧ W.cell? ⟨b, off + i * 3 + 2, none⟩ = some (.int .i64 x.result.n)
theorem TyIn.more {W : World} {B B' : Nat} {v : Value} {l : List Ty} (h : TyIn W B v l) (hB : B ≤ B') : TyIn W B' v l := by
  obtain ⟨A, c, rfl, hA⟩ := h
  refine ⟨A, c, rfl, fun i x hx => ?_⟩
  obtain ⟨b, off, pv, rfl, h0, h1, h2⟩ := hA i x hx
  exact ⟨b, off, pv, rfl, by omega, h1.more hB, h2⟩
theorem TyIn.below {W W' : World} {B : Nat} {v : Value} {l : List Ty} (h : TyIn W B v l) (hb : ∀ k, k < B → W'.heap[k]? = W.heap[k]?) : TyIn W' B v l := by
  obtain ⟨A, c, rfl, hA⟩ := h
  refine ⟨A, c, rfl, fun i x hx => ?_⟩
  obtain ⟨b, off, pv, rfl, hB, h0, h1, h2, h3⟩ := hA i x hx
  exact ⟨b, off, pv, rfl, hB, h0.below hb, (World.cell?_of_block (hb b hB)).trans h1, (World.cell?_of_block (hb b hB)).trans h2, (World.cell?_of_block (hb b hB)).trans h3⟩

/-- An arena as a value, v its identifiers' slice. -/
def arV (v : Value) (root : Bs) (ju : Bool) : Value := .agg #[v, .bool root.cell, .int .i64 root.n, .bool ju]

/-- What the walk over the places has come to: before the identifier i; at the parameter j of the identifier i. -/
def plLo (a : Ar) (i : Nat) : List Pl := ⟨a.root, 0, 0, a.jumps⟩ :: idPl a.jumps 0 (a.ids.take i)
def plLi (a : Ar) (i : Nat) (t : Ty) (j : Nat) : List Pl := plLo a i ++ (⟨t.result, ((i + 1 : Nat) : Int), 0, a.jumps || decide (0 < t.params.length)⟩ :: parPl (i + 1) 0 (t.params.take j))
theorem plLo_all (a : Ar) : plLo a a.ids.length = places a := by simp [plLo, places]
theorem plLi_zero (a : Ar) (i : Nat) (t : Ty) : plLi a i t 0 = plLo a i ++ [⟨t.result, ((i + 1 : Nat) : Int), 0, a.jumps || decide (0 < t.params.length)⟩] := by simp [plLi, parPl]
theorem plLi_succ (a : Ar) (i : Nat) (t : Ty) (j : Nat) (b : Bs) (h : t.params[j]? = some b) : plLi a i t (j + 1) = plLi a i t j ++ [⟨b, ((i + 1 : Nat) : Int), ((j + 1 : Nat) : Int), true⟩] := by
  obtain ⟨hj, rfl⟩ := List.getElem?_eq_some_iff.1 h
  unfold plLi
  rw [List.take_succ_eq_append_getElem hj, parPl_snoc, List.append_assoc]
  simp [Nat.min_eq_left (Nat.le_of_lt hj)]
theorem plLi_all (a : Ar) (i : Nat) (t : Ty) (h : a.ids[i]? = some t) : plLi a i t t.params.length = plLo a (i + 1) := by
  obtain ⟨hi, rfl⟩ := List.getElem?_eq_some_iff.1 h
  unfold plLi plLo
  rw [List.take_succ_eq_append_getElem hi, idPl_snoc]
  simp [blk, Nat.min_eq_left (Nat.le_of_lt hi)]
theorem plLo_pre (a : Ar) (i : Nat) : plLo a i <+: places a := by
  rw [← plLo_all]
  have h : ∀ n, i ≤ n → idPl a.jumps 0 (a.ids.take i) <+: idPl a.jumps 0 (a.ids.take n) := by
    intro n hn
    induction n with
    | zero => obtain rfl : i = 0 := by omega
              exact List.prefix_refl _
    | succ n ih =>
      by_cases e : i = n + 1
      · subst e; exact List.prefix_refl _
      · refine (ih (by omega)).trans ?_
        by_cases hl : n < a.ids.length
        · rw [List.take_succ_eq_append_getElem hl, idPl_snoc]
          exact List.prefix_append _ _
        · rw [List.take_of_length_le (by omega), List.take_of_length_le (by omega)]
          exact List.prefix_refl _
  by_cases hi : i ≤ a.ids.length
  · exact (List.cons_prefix_cons).2 ⟨rfl, h _ hi⟩
  · unfold plLo
    rw [List.take_of_length_le (by omega), List.take_of_length_le (by omega)]
    exact List.prefix_refl _
theorem plLi_pre (a : Ar) (i : Nat) (t : Ty) (h : a.ids[i]? = some t) (j : Nat) : plLi a i t j <+: places a := by
  refine List.IsPrefix.trans ?_ (plLo_pre a (i + 1))
  rw [← plLi_all a i t h]
  have hp : ∀ n, j ≤ n → plLi a i t j <+: plLi a i t n := by
    intro n hn
    induction n with
    | zero => obtain rfl : j = 0 := by omega
              exact List.prefix_refl _
    | succ n ih =>
      by_cases e : j = n + 1
      · subst e; exact List.prefix_refl _
      · refine (ih (by omega)).trans ?_
        by_cases hl : n < t.params.length
        · rw [plLi_succ a i t n _ (List.getElem?_eq_getElem hl)]
          exact List.prefix_append _ _
        · unfold plLi
          rw [List.take_of_length_le (by omega), List.take_of_length_le (by omega)]
          exact List.prefix_refl _
  by_cases hj : j ≤ t.params.length
  · exact hp _ hj
  · unfold plLi
    rw [List.take_of_length_le (by omega), List.take_of_length_le (by omega)]
    exact List.prefix_refl _

/-- The limits that a right arena keeps. -/
def smallAr (a : Ar) : Prop := a.ids.length ≤ 8 ∧ ∀ t ∈ a.ids, t.params.length ≤ 5
end Go.Proofs.YtklfojmflmablaaGreatDoor
