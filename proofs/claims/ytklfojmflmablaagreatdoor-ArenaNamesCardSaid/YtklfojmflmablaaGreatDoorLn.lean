/- How many moves an arena has. -/
import Derived.Test.YtklfojmflmablaaGreatDoorTo
namespace Go.Proofs.YtklfojmflmablaaGreatDoor

theorem parPl_length (i : Nat) : ∀ (bs : List Bs) (j : Nat), (parPl i j bs).length = bs.length
  | [], _ => rfl
  | _ :: bs, j => by rw [parPl, List.length_cons, List.length_cons, parPl_length i bs]
theorem idPl_le (ju : Bool) : ∀ (ts : List Ty) (i : Nat), (∀ t ∈ ts, t.params.length ≤ 5) → (idPl ju i ts).length ≤ 6 * ts.length
  | [], _, _ => by simp [idPl]
  | t :: ts, i, h => by
    rw [idPl_cons, List.length_append, List.length_cons]
    have h1 := idPl_le ju ts (i + 1) (fun t ht => h t (by simp [ht]))
    have h2 := h t (by simp)
    unfold blk
    rw [List.length_cons, parPl_length]
    omega
theorem places_le {a : Ar} (h : smallAr a) : (places a).length ≤ 49 := by
  unfold places
  rw [List.length_cons]
  have := idPl_le a.jumps a.ids 0 h.2
  have := h.1
  omega
theorem quests_le {p : Pl} (h : p.b.n ≤ 64) : (quests p).length ≤ 65 := by
  unfold quests
  split <;> simp [vals] <;> omega
theorem answ_le {p : Pl} {n : Int} (h : n ≤ 64) : (answ p n).length ≤ 65 := by
  unfold answ
  split <;> simp [vals] <;> omega
theorem movesOf_le {p : Pl} (h : p.b.n ≤ 64) : (movesOf p).length ≤ 130 := by
  unfold movesOf
  rw [List.length_append]
  have := quests_le h
  have := answ_le (p := p) h
  unfold tellOf
  omega
theorem flatMap_le {α β : Type} (f : α → List β) (n : Nat) : ∀ (l : List α), (∀ x ∈ l, (f x).length ≤ n) → (l.flatMap f).length ≤ l.length * n
  | [], _ => by simp
  | x :: l, h => by
    rw [List.flatMap_cons, List.length_append, List.length_cons]
    have h1 := flatMap_le f n l (fun x hx => h x (by simp [hx]))
    have h2 := h x (by simp)
    rw [Nat.add_mul]
    omega
theorem movesBy_le {a : Ar} {so : Pl → Bool} {sm : Pl → List Mv} (h : smallAr a) (hm : ∀ p ∈ places a, (sm p).length ≤ 130) : (movesBy a so sm).length ≤ 6370 := by
  unfold movesBy
  have h1 := flatMap_le sm 130 ((places a).filter so) (fun p hp => hm p (List.mem_filter.1 hp).1)
  have h2 := List.length_filter_le so (places a)
  have h3 := places_le h
  have : ((places a).filter so).length * 130 ≤ 49 * 130 := Nat.mul_le_mul_right _ (by omega)
  omega
theorem movesBy_quests {a : Ar} {so : Pl → Bool} (h : checkRes a = 0) : (movesBy a so quests).length ≤ 100000 := by
  have := movesBy_le (so := so) (sm := quests) (check_small h).1 (fun p hp => by have := quests_le (places_ok h hp); omega)
  omega
theorem movesBy_tell {a : Ar} {so : Pl → Bool} (h : checkRes a = 0) : (movesBy a so tellOf).length ≤ 100000 := by
  have := movesBy_le (so := so) (sm := tellOf) (check_small h).1 (fun p hp => by have := answ_le (p := p) (places_ok h hp); unfold tellOf; omega)
  omega
theorem movesBy_done {a : Ar} {so : Pl → Bool} (h : checkRes a = 0) : (movesBy a so doneOf).length ≤ 100000 := by
  have := movesBy_le (so := so) (sm := doneOf) (check_small h).1 (fun p hp => by have := answ_le (p := p) (n := 1) (by omega); unfold doneOf; omega)
  omega
theorem movesBy_all {a : Ar} {so : Pl → Bool} (h : checkRes a = 0) : (movesBy a so movesOf).length ≤ 100000 := by
  have := movesBy_le (so := so) (sm := movesOf) (check_small h).1 (fun p hp => movesOf_le (places_ok h hp))
  omega
theorem places_64 {a : Ar} (h : checkRes a = 0) : ∀ p ∈ places a, p.b.n ≤ 9223372036854775807 := fun p hp => by have := places_ok h hp; omega
end Go.Proofs.YtklfojmflmablaaGreatDoor
