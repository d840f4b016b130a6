/- Arenas as plain answers: places and moves ascend; what the reference lists. -/
import Derived.Test.YtklfojmflmablaaGreatDoorTo
namespace Go.Proofs.YtklfojmflmablaaGreatDoor

/-! ### Places ascend, and so do moves -/
def ltP (p q : Pl) : Prop := p.id < q.id ∨ (p.id = q.id ∧ p.arg < q.arg)
theorem parPl_mem {i : Nat} {p : Pl} : ∀ {bs : List Bs} {j : Nat}, p ∈ parPl i j bs → p.id = i ∧ (j : Int) < p.arg ∧ p.arg ≤ j + bs.length ∧ p.jumps = true ∧ p.b ∈ bs
  | [], _, h => by cases h
  | b :: bs, j, h => by
    rcases List.mem_cons.1 h with rfl | h
    · exact ⟨rfl, by simp; omega, by simp; omega, rfl, by simp⟩
    · obtain ⟨h1, h2, h3, h4, h5⟩ := parPl_mem h
      exact ⟨h1, by omega, by simp at h3 ⊢; omega, h4, by simp [h5]⟩
theorem parPl_pair (i : Nat) : ∀ (bs : List Bs) (j : Nat), (parPl i j bs).Pairwise ltP
  | [], _ => .nil
  | b :: bs, j => by
    refine List.pairwise_cons.2 ⟨fun p hp => ?_, parPl_pair i bs (j + 1)⟩
    obtain ⟨h1, h2, _⟩ := parPl_mem hp
    exact .inr ⟨h1.symm, by simpa using h2⟩
theorem blk_mem {ju : Bool} {i : Nat} {t : Ty} {p : Pl} (h : p ∈ blk ju i t) : p.id = ((i + 1 : Nat) : Int) ∧ 0 ≤ p.arg ∧ p.arg ≤ t.params.length ∧ (p.b = t.result ∨ p.b ∈ t.params) := by
  rcases List.mem_cons.1 h with rfl | h
  · exact ⟨rfl, by simp, by simp, .inl rfl⟩
  · obtain ⟨h1, h2, h3, _, h5⟩ := parPl_mem h
    exact ⟨h1, by omega, by omega, .inr h5⟩
theorem blk_pair (ju : Bool) (i : Nat) (t : Ty) : (blk ju i t).Pairwise ltP := by
  refine List.pairwise_cons.2 ⟨fun p hp => ?_, parPl_pair _ _ _⟩
  obtain ⟨h1, h2, _⟩ := parPl_mem hp
  exact .inr ⟨h1.symm, by simpa using h2⟩
theorem idPl_mem {ju : Bool} {p : Pl} : ∀ {ts : List Ty} {i : Nat}, p ∈ idPl ju i ts → (i : Int) < p.id ∧ p.id ≤ i + ts.length ∧ 0 ≤ p.arg ∧ (∃ t ∈ ts, p.arg ≤ t.params.length ∧ (p.b = t.result ∨ p.b ∈ t.params))
  | [], _, h => by cases h
  | t :: ts, i, h => by
    rw [idPl_cons, List.mem_append] at h
    rcases h with h | h
    · obtain ⟨h1, h2, h3, h4⟩ := blk_mem h
      exact ⟨by omega, by simp; omega, h2, t, by simp, h3, h4⟩
    · obtain ⟨h1, h2, h3, t', ht', h4⟩ := idPl_mem h
      exact ⟨by omega, by simp at h2 ⊢; omega, h3, t', by simp [ht'], h4⟩
theorem idPl_pair (ju : Bool) : ∀ (ts : List Ty) (i : Nat), (idPl ju i ts).Pairwise ltP
  | [], _ => .nil
  | t :: ts, i => by
    rw [idPl_cons, List.pairwise_append]
    refine ⟨blk_pair ju i t, idPl_pair ju ts (i + 1), fun p hp q hq => ?_⟩
    have h1 := (blk_mem hp).1
    have h2 := (idPl_mem hq).1
    exact .inl (by omega)
theorem places_pair (a : Ar) : (places a).Pairwise ltP := by
  refine List.pairwise_cons.2 ⟨fun p hp => .inl ?_, idPl_pair _ _ _⟩
  have := (idPl_mem hp).1
  simpa using this

theorem filter_at {id arg : Int} : ∀ {l : List Pl}, l.Pairwise ltP → l.filter (atB id arg) = (l.find? (atB id arg)).toList
  | [], _ => rfl
  | p :: l, h => by
    obtain ⟨h1, h2⟩ := List.pairwise_cons.1 h
    rw [List.filter_cons, List.find?_cons]
    cases hp : atB id arg p with
    | false => simp only [Bool.false_eq_true, if_false]; exact filter_at h2
    | true =>
      simp only [if_true, Option.toList]
      have : l.filter (atB id arg) = [] := by
        rw [List.filter_eq_nil_iff]
        intro q hq hc
        simp only [atB, Bool.and_eq_true, decide_eq_true_eq] at hp hc
        rcases h1 q hq with h | h <;> omega
      rw [this]

theorem vals_length' (id arg kind : Int) (k : Nat) : (vals id arg kind k).length = k := by simp [vals]
theorem vals_mem {id arg kind : Int} {n : Nat} {m : Mv} : m ∈ vals id arg kind n ↔ m.id = id ∧ m.arg = arg ∧ m.kind = kind ∧ 0 ≤ m.n ∧ m.n < n := by
  unfold vals
  rw [List.mem_map]
  constructor
  · rintro ⟨k, hk, rfl⟩
    have := List.mem_range.1 hk
    exact ⟨rfl, rfl, rfl, by simp, by simp; omega⟩
  · rintro ⟨rfl, rfl, rfl, h1, h2⟩
    refine ⟨m.n.toNat, List.mem_range.2 (by omega), ?_⟩
    cases m
    simp only [Mv.mk.injEq, true_and]
    simp only at h1
    omega
theorem vals_pair (id arg kind : Int) (n : Nat) : (vals id arg kind n).Pairwise (fun a b => lessMv a b = true) := by
  unfold vals
  rw [List.pairwise_map]
  refine List.Pairwise.imp ?_ List.pairwise_lt_range
  intro a b h
  simp [lessMv]
  omega
theorem quests_mem {p : Pl} {m : Mv} : m ∈ quests p ↔ m.id = p.id ∧ m.arg = p.arg ∧ ((m.kind = 1 ∧ m.n = 0) ∨ (p.b.cell = true ∧ m.kind = 2 ∧ 0 ≤ m.n ∧ m.n < p.b.n)) := by
  unfold quests
  rw [List.mem_cons]
  have h0 : m = ⟨p.id, p.arg, 1, 0⟩ ↔ m.id = p.id ∧ m.arg = p.arg ∧ m.kind = 1 ∧ m.n = 0 := by
    cases m; simp
  rw [h0]
  split
  · rename_i h
    rw [vals_mem]
    simp only [h, true_and]
    constructor
    · rintro (h | h)
      · exact ⟨h.1, h.2.1, .inl h.2.2⟩
      · exact ⟨h.1, h.2.1, .inr ⟨h.2.2.1, h.2.2.2.1, by omega⟩⟩
    · rintro ⟨h1, h2, h | h⟩
      · exact .inl ⟨h1, h2, h⟩
      · exact .inr ⟨h1, h2, h.1, h.2.1, by omega⟩
  · rename_i h
    simp [h]
theorem answ_mem {p : Pl} {n : Int} {m : Mv} : m ∈ answ p n ↔ m.id = p.id ∧ m.arg = p.arg ∧ m.kind = 3 ∧ ((p.jumps = true ∧ m.n = -1) ∨ (0 ≤ m.n ∧ m.n < n)) := by
  unfold answ
  rw [List.mem_append, vals_mem]
  have h0 : m ∈ (if p.jumps = true then [(⟨p.id, p.arg, 3, -1⟩ : Mv)] else []) ↔ p.jumps = true ∧ m.id = p.id ∧ m.arg = p.arg ∧ m.kind = 3 ∧ m.n = -1 := by
    cases m; split <;> simp_all
  rw [h0]
  constructor
  · rintro (h | h)
    · exact ⟨h.2.1, h.2.2.1, h.2.2.2.1, .inl ⟨h.1, h.2.2.2.2⟩⟩
    · exact ⟨h.1, h.2.1, h.2.2.1, .inr ⟨h.2.2.2.1, by omega⟩⟩
  · rintro ⟨h1, h2, h3, h | h⟩
    · exact .inl ⟨h.1, h1, h2, h3, h.2⟩
    · exact .inr ⟨h1, h2, h3, h.1, by omega⟩
theorem quests_pair (p : Pl) : (quests p).Pairwise (fun a b => lessMv a b = true) := by
  unfold quests
  refine List.pairwise_cons.2 ⟨fun m hm => ?_, ?_⟩
  · split at hm
    · obtain ⟨h1, h2, h3, _⟩ := vals_mem.1 hm
      simp [lessMv, h1, h2, h3]
    · cases hm
  · split
    · exact vals_pair _ _ _ _
    · exact .nil
theorem answ_pair (p : Pl) (n : Int) : (answ p n).Pairwise (fun a b => lessMv a b = true) := by
  unfold answ
  rw [List.pairwise_append]
  refine ⟨by split <;> simp, vals_pair _ _ _ _, fun x hx m hm => ?_⟩
  split at hx
  · obtain rfl := List.mem_singleton.1 hx
    obtain ⟨h1, h2, h3, h4, _⟩ := vals_mem.1 hm
    simp [lessMv, h1, h2, h3]
    omega
  · cases hx
theorem movesOf_mem {p : Pl} {m : Mv} (h : m ∈ movesOf p) : m.id = p.id ∧ m.arg = p.arg := by
  rcases List.mem_append.1 h with h | h
  · have := quests_mem.1 h; exact ⟨this.1, this.2.1⟩
  · have := answ_mem.1 h; exact ⟨this.1, this.2.1⟩
theorem movesOf_pair (p : Pl) : (movesOf p).Pairwise (fun a b => lessMv a b = true) := by
  unfold movesOf
  rw [List.pairwise_append]
  refine ⟨quests_pair p, answ_pair p _, fun x hx m hm => ?_⟩
  obtain ⟨h1, h2, h3⟩ := quests_mem.1 hx
  obtain ⟨k1, k2, k3, _⟩ := answ_mem.1 hm
  simp [lessMv, h1, h2, k1, k2, k3]
  omega
theorem allMv_pair (a : Ar) : (allMv a).Pairwise (fun a b => lessMv a b = true) := by
  unfold allMv movesBy
  rw [List.filter_eq_self.2 (fun _ _ => rfl), List.pairwise_flatMap]
  refine ⟨fun p _ => movesOf_pair p, (places_pair a).imp ?_⟩
  intro p q hpq x hx y hy
  obtain ⟨h1, h2⟩ := movesOf_mem hx
  obtain ⟨k1, k2⟩ := movesOf_mem hy
  unfold ltP at hpq
  simp [lessMv, h1, h2, k1, k2]
  omega

/-! ### What the reference lists -/
def refQ (a : Ar) (id arg : Int) : List Mv := match placeOf a id arg with | none => [] | some b => quests ⟨b, id, arg, jumpsAt a id arg⟩
def refT (a : Ar) (id arg : Int) (ask : Bool) : List Mv := match placeOf a id arg with | none => [] | some b => answ ⟨b, id, arg, jumpsAt a id arg⟩ (if ask then b.n else 1)
def refHas (a : Ar) (m : Mv) : Bool := decide (m ∈ refQ a m.id m.arg) || decide (m ∈ refT a m.id m.arg true)
def askB (m : Mv) : Bool := decide (m.kind = 1) || decide (m.kind = 2)
def sideB (m : Mv) : Bool := (decide (0 < m.id) && decide (m.arg = 0)) != askB m
def refBelow (a : Ar) (m : Mv) : List Mv :=
  if 0 < m.id ∧ m.arg = 0 then (List.range (((a.ids[m.id.toNat - 1]?).map fun t => t.params.length).getD 0)).flatMap fun k => refQ a m.id ((k + 1 : Nat) : Int)
  else (List.range a.ids.length).flatMap fun k => refQ a ((k + 1 : Nat) : Int) 0

theorem hasMv_mem (p : Pl) (m : Mv) : hasMv p m = decide (m ∈ movesOf p) := by
  unfold hasMv
  rw [Bool.eq_iff_iff]
  simp [List.any_eq_true]
theorem which_eq (a : Ar) (m : Mv) : whichPl a m = match placeOf a m.id m.arg with | none => none | some b => if m ∈ movesOf ⟨b, m.id, m.arg, jumpsAt a m.id m.arg⟩ then some ⟨b, m.id, m.arg, jumpsAt a m.id m.arg⟩ else none := by
  have h := plAt_eq a m.id m.arg
  unfold plAt at h
  unfold whichPl
  rw [h]
  cases placeOf a m.id m.arg with
  | none => rfl
  | some b => simp [hasMv_mem]
theorem which_has (a : Ar) (m : Mv) : (whichPl a m).isSome = refHas a m := by
  rw [which_eq]
  unfold refHas refQ refT
  cases placeOf a m.id m.arg with
  | none => simp
  | some b => simp only [if_true, movesOf, tellOf, List.mem_append]; split <;> simp_all
theorem which_some' {a : Ar} {m : Mv} {p : Pl} (h : whichPl a m = some p) : placeOf a m.id m.arg = some p.b ∧ p = ⟨p.b, m.id, m.arg, jumpsAt a m.id m.arg⟩ ∧ m ∈ movesOf p := by
  rw [which_eq] at h
  cases hp : placeOf a m.id m.arg with
  | none => rw [hp] at h; cases h
  | some b =>
    rw [hp] at h
    simp only at h
    split at h
    · rename_i hm
      cases h
      exact ⟨rfl, rfl, hm⟩
    · cases h
theorem placeOf_nonneg {a : Ar} {id arg : Int} {b : Bs} (h : placeOf a id arg = some b) : 0 ≤ id ∧ 0 ≤ arg := by
  unfold placeOf at h
  split at h
  · omega
  · split at h
    · cases h
    · split at h
      · cases h
      · split at h
        · omega
        · split at h
          · cases h
          · omega
theorem which_kind {a : Ar} {m : Mv} {p : Pl} (h : whichPl a m = some p) : m.kind = 1 ∨ m.kind = 2 ∨ m.kind = 3 := by
  obtain ⟨_, _, hm⟩ := which_some' h
  rcases List.mem_append.1 hm with hm | hm
  · have := quests_mem.1 hm; omega
  · have := answ_mem.1 hm; omega
theorem which_side {a : Ar} {m : Mv} {p : Pl} (h : whichPl a m = some p) : (isCalled p == decide (m.kind = 3)) = sideB m := by
  have hk := which_kind h
  obtain ⟨h1, h2, _⟩ := which_some' h
  have h0 := placeOf_nonneg h1
  rw [h2]
  unfold isCalled sideB askB
  have e1 : decide (m.id ≠ 0) = decide (0 < m.id) := by
    by_cases h : 0 < m.id
    · rw [decide_eq_true h, decide_eq_true (by omega)]
    · rw [decide_eq_false h, decide_eq_false (by omega)]
  dsimp only
  rw [e1]
  rcases hk with hk | hk | hk <;> simp [hk] <;> cases decide (0 < m.id) <;> cases decide (m.arg = 0) <;> rfl

theorem places_mem_at {a : Ar} {p : Pl} (h : p ∈ places a) : placeOf a p.id p.arg = some p.b ∧ p.jumps = jumpsAt a p.id p.arg := by
  have hf : p ∈ (places a).filter (atB p.id p.arg) := List.mem_filter.2 ⟨h, by simp [atB]⟩
  rw [filter_at (places_pair a)] at hf
  have h2 := plAt_eq a p.id p.arg
  unfold plAt at h2
  rw [h2] at hf
  cases hp : placeOf a p.id p.arg with
  | none => rw [hp] at hf; cases hf
  | some b =>
    rw [hp] at hf
    simp only [Option.map_some, Option.toList_some, List.mem_singleton] at hf
    rw [hf]
    simp
theorem flatMap_congr' {α β : Type} {f g : α → List β} : ∀ {l : List α}, (∀ x ∈ l, f x = g x) → l.flatMap f = l.flatMap g
  | [], _ => rfl
  | x :: l, h => by rw [List.flatMap_cons, List.flatMap_cons, h x (by simp), flatMap_congr' fun y hy => h y (by simp [hy])]
theorem filter_par (i : Nat) : ∀ (bs : List Bs) (j : Nat), (parPl i j bs).flatMap quests = (List.range bs.length).flatMap fun k => match bs[k]? with | none => [] | some b => quests ⟨b, i, ((j + k + 1 : Nat) : Int), true⟩
  | [], _ => rfl
  | b :: bs, j => by
    rw [parPl, List.flatMap_cons, filter_par i bs (j + 1), List.length_cons, List.range_succ_eq_map, List.flatMap_cons, List.flatMap_map]
    congr 1
    congr 1
    funext k
    simp only [Nat.succ_eq_add_one, List.getElem?_cons_succ]
    rw [show j + 1 + k + 1 = j + (k + 1) + 1 by omega]
theorem below_called (a : Ar) (id : Int) (i : Nat) (t : Ty) (hid : id = ((i + 1 : Nat) : Int)) (ht : a.ids[i]? = some t) (q : Pl) (hq : q.id = id) (hqa : q.arg = 0) : movesBy a (underB q) quests = (parPl (i + 1) 0 t.params).flatMap quests := by
  have hu : underB q = fun p : Pl => decide (p.id = id) && decide (p.arg ≠ 0) := by
    funext p
    unfold underB isCalled
    rw [hq, hqa, if_pos (by simp; omega)]
  rw [hu]
  unfold movesBy places
  rw [List.filter_cons, if_neg (by simp)]
  have hgen : ∀ (ts : List Ty) (n : Nat), (idPl a.jumps n ts).filter (fun p : Pl => decide (p.id = id) && decide (p.arg ≠ 0)) = match ts[i - n]? with | none => [] | some t => if n ≤ i then parPl (i + 1) 0 t.params else [] := by
    intro ts
    induction ts with
    | nil => intro n; rfl
    | cons u ts ih =>
      intro n
      rw [idPl_cons, List.filter_append, ih (n + 1)]
      by_cases hn : n = i
      · subst hn
        rw [Nat.sub_self]
        have h1 : (blk a.jumps n u).filter (fun p : Pl => decide (p.id = id) && decide (p.arg ≠ 0)) = parPl (n + 1) 0 u.params := by
          unfold blk
          rw [List.filter_cons, if_neg (by simp)]
          rw [List.filter_eq_self]
          intro p hp
          obtain ⟨h1, h2, _⟩ := parPl_mem hp
          simp [h1, hid]
          try omega
        rw [h1]
        have hz : (match ts[n - (n + 1)]? with | none => ([] : List Pl) | some t => if n + 1 ≤ n then parPl (n + 1) 0 t.params else []) = [] := by
          split
          · rfl
          · rw [if_neg (by omega)]
        rw [hz]
        simp
      · have h1 : (blk a.jumps n u).filter (fun p : Pl => decide (p.id = id) && decide (p.arg ≠ 0)) = [] := by
          rw [List.filter_eq_nil_iff]
          intro p hp
          have := (blk_mem hp).1
          simp [this, hid]
          omega
        rw [h1, List.nil_append]
        by_cases hlt : n < i
        · rw [show i - n = (i - (n + 1)) + 1 by omega, List.getElem?_cons_succ]
          cases ts[i - (n + 1)]? with
          | none => rfl
          | some t => simp only; rw [if_pos (by omega), if_pos (by omega)]
        · rw [show i - n = 0 by omega, show i - (n + 1) = 0 by omega, List.getElem?_cons_zero]
          cases ts[0]? with
          | none => simp only; rw [if_neg (by omega)]
          | some t => simp only; rw [if_neg (by omega), if_neg (by omega)]
  rw [hgen, Nat.sub_zero, ht]
  simp
theorem below_other (a : Ar) (q : Pl) (hq : isCalled q = false) : movesBy a (underB q) quests = (List.range a.ids.length).flatMap fun k => refQ a ((k + 1 : Nat) : Int) 0 := by
  have hu : underB q = isCalled := by funext p; unfold underB; rw [hq]; rfl
  rw [hu]
  have hgen : ∀ n, n ≤ a.ids.length → ((idPl a.jumps 0 (a.ids.take n)).filter isCalled).flatMap quests = (List.range n).flatMap fun k => refQ a ((k + 1 : Nat) : Int) 0 := by
    intro n
    induction n with
    | zero => intro _; simp [idPl]
    | succ n ih =>
      intro hn
      rw [List.take_succ_eq_append_getElem (by omega), idPl_snoc, List.filter_append, List.flatMap_append, ih (by omega), List.range_succ, List.flatMap_append]
      congr 1
      have h1 : (blk a.jumps (0 + (a.ids.take n).length) a.ids[n]).filter isCalled = [⟨(a.ids[n]).result, ((n + 1 : Nat) : Int), 0, a.jumps || decide (0 < (a.ids[n]).params.length)⟩] := by
        unfold blk
        rw [List.filter_cons, if_pos (by simp [isCalled]; omega)]
        have : (parPl (0 + (a.ids.take n).length + 1) 0 (a.ids[n]).params).filter isCalled = [] := by
          rw [List.filter_eq_nil_iff]
          intro p hp
          obtain ⟨_, h2, _⟩ := parPl_mem hp
          simp [isCalled]
          omega
        rw [this]
        simp [Nat.min_eq_left (show n ≤ a.ids.length by omega)]
      rw [h1]
      have h2 : placeOf a ((n + 1 : Nat) : Int) 0 = some (a.ids[n]).result := by
        unfold placeOf
        rw [if_neg (by omega), if_neg (by omega), show ((n + 1 : Nat) : Int).toNat - 1 = n by omega, List.getElem?_eq_getElem (by omega)]
        rfl
      have h3 : jumpsAt a ((n + 1 : Nat) : Int) 0 = (a.jumps || decide (0 < (a.ids[n]).params.length)) := by
        unfold jumpsAt
        rw [show ((n + 1 : Nat) : Int).toNat - 1 = n by omega, List.getElem?_eq_getElem (by omega), decide_eq_true (show (0 : Int) < ((n + 1 : Nat) : Int) by omega)]
        simp
      rw [List.flatMap_cons, List.flatMap_nil, List.append_nil, List.flatMap_cons, List.flatMap_nil, List.append_nil]
      unfold refQ
      rw [h2, h3]
  unfold movesBy places
  rw [List.filter_cons, if_neg (by simp [isCalled])]
  have := hgen a.ids.length (Nat.le_refl _)
  rwa [List.take_length] at this
theorem below_eq {a : Ar} {m : Mv} {p : Pl} (h : whichPl a m = some p) : movesBy a (underB p) quests = refBelow a m := by
  obtain ⟨h1, h2, _⟩ := which_some' h
  have h0 := placeOf_nonneg h1
  unfold refBelow
  by_cases hc : 0 < m.id ∧ m.arg = 0
  · rw [if_pos hc]
    obtain ⟨i, hi⟩ : ∃ i : Nat, m.id = ((i + 1 : Nat) : Int) := ⟨m.id.toNat - 1, by omega⟩
    have ht : ∃ t, a.ids[i]? = some t := by
      unfold placeOf at h1
      rw [if_neg (by omega)] at h1
      split at h1
      · cases h1
      · exact ⟨_, List.getElem?_eq_getElem (by omega)⟩
    obtain ⟨t, ht⟩ := ht
    rw [below_called a m.id i t hi ht p (by rw [h2]) (by rw [h2]; exact hc.2), filter_par, show m.id.toNat - 1 = i by omega, ht]
    simp only [Option.map_some, Option.getD_some]
    refine flatMap_congr' fun k hk => ?_
    have hk := List.mem_range.1 hk
    rw [List.getElem?_eq_getElem hk]
    unfold refQ placeOf
    rw [if_neg (by omega), if_neg (by
      have := (List.getElem?_eq_some_iff.1 ht).1
      omega), show m.id.toNat - 1 = i by omega, ht]
    simp only
    rw [if_neg (by omega), if_neg (by omega), show ((k + 1 : Nat) : Int).toNat - 1 = k by omega, List.getElem?_eq_getElem hk]
    simp only
    have : jumpsAt a m.id ((k + 1 : Nat) : Int) = true := by
      unfold jumpsAt; rw [decide_eq_true (by omega)]; rfl
    rw [this, hi, Nat.zero_add]
  · rw [if_neg hc]
    refine below_other a p ?_
    rw [h2]
    unfold isCalled
    dsimp only
    by_cases h3 : m.arg = 0
    · rw [decide_eq_false (show ¬ (m.id ≠ 0) by omega)]; rfl
    · rw [decide_eq_false h3]; simp
theorem told_eq {a : Ar} {m : Mv} {p : Pl} (h : whichPl a m = some p) (f : Pl → List Mv) : movesBy a (atB p.id p.arg) f = f p := by
  obtain ⟨h1, h2, _⟩ := which_some' h
  unfold movesBy
  rw [filter_at (places_pair a)]
  have h3 := plAt_eq a p.id p.arg
  unfold plAt at h3
  rw [h3]
  have e1 : p.id = m.id := by rw [h2]
  have e2 : p.arg = m.arg := by rw [h2]
  rw [e1, e2, h1]
  simp only [Option.map_some, Option.toList_some, List.flatMap_cons, List.flatMap_nil, List.append_nil]
  rw [← h2]

theorem which_of {a : Ar} {p : Pl} {m : Mv} (hp : p ∈ places a) (hm : m ∈ movesOf p) : whichPl a m = some p := by
  obtain ⟨h1, h2⟩ := movesOf_mem hm
  obtain ⟨h3, h4⟩ := places_mem_at hp
  rw [which_eq, h1, h2, h3]
  have e : (⟨p.b, p.id, p.arg, jumpsAt a p.id p.arg⟩ : Pl) = p := by rw [← h4]
  simp only
  rw [e, if_pos hm]
theorem mem_all {a : Ar} {m : Mv} : m ∈ allMv a ↔ ∃ p ∈ places a, m ∈ movesOf p := by
  unfold allMv movesBy
  rw [List.filter_eq_self.2 (fun _ _ => rfl), List.mem_flatMap]
theorem which_mem {a : Ar} {m : Mv} {p : Pl} (h : whichPl a m = some p) : p ∈ places a ∧ m ∈ movesOf p := by
  refine ⟨?_, (which_some' h).2.2⟩
  unfold whichPl at h
  cases hf : (places a).find? (atB m.id m.arg) with
  | none => rw [hf] at h; cases h
  | some q =>
    rw [hf] at h
    simp only at h
    split at h
    · cases h; exact List.mem_of_find?_eq_some hf
    · cases h
theorem movesBy_mem {a : Ar} {so : Pl → Bool} {f : Pl → List Mv} {m : Mv} : m ∈ movesBy a so f ↔ ∃ p ∈ places a, so p = true ∧ m ∈ f p := by
  unfold movesBy
  rw [List.mem_flatMap]
  constructor
  · rintro ⟨p, hp, hm⟩
    obtain ⟨h1, h2⟩ := List.mem_filter.1 hp
    exact ⟨p, h1, h2, hm⟩
  · rintro ⟨p, h1, h2, hm⟩
    exact ⟨p, List.mem_filter.2 ⟨h1, h2⟩, hm⟩
/-- What the document says of the answers of a question. -/
def answRes (m : Mv) (p : Pl) : List Mv × Int := if m.kind = 1 then (tellOf p, 0) else if m.kind = 2 then (doneOf p, 0) else ([], 2)
theorem done_sub {p : Pl} (h : 1 ≤ p.b.n) {x : Mv} (hx : x ∈ doneOf p) : x ∈ tellOf p := by
  unfold doneOf at hx
  unfold tellOf
  obtain ⟨h1, h2, h3, h4⟩ := answ_mem.1 hx
  refine answ_mem.2 ⟨h1, h2, h3, ?_⟩
  rcases h4 with h4 | h4
  · exact .inl h4
  · exact .inr (by omega)
theorem answ_sides {a : Ar} {m x : Mv} {p : Pl} (hp : whichPl a m = some p) (h1 : 1 ≤ p.b.n) (hx : x ∈ (answRes m p).1) : whichPl a x = some p ∧ (isCalled p == decide (x.kind = 3)) ≠ (isCalled p == decide (m.kind = 3)) := by
  obtain ⟨hpl, _⟩ := which_mem hp
  have hk : m.kind ≠ 3 ∧ x ∈ tellOf p := by
    unfold answRes at hx
    split at hx
    · rename_i hk; exact ⟨by omega, hx⟩
    · split at hx
      · rename_i hk; exact ⟨by omega, done_sub h1 hx⟩
      · cases hx
  refine ⟨which_of hpl (List.mem_append_right _ hk.2), ?_⟩
  have h3 := (answ_mem.1 hk.2).2.2.1
  rw [decide_eq_true h3, decide_eq_false hk.1]
  cases isCalled p <;> simp
theorem under_sides {a : Ar} {m x : Mv} {p : Pl} (hk : m.kind ≠ 3) (hx : x ∈ movesBy a (underB p) quests) : ∃ q, whichPl a x = some q ∧ (isCalled q == decide (x.kind = 3)) ≠ (isCalled p == decide (m.kind = 3)) := by
  obtain ⟨q, hq, hu, hxq⟩ := movesBy_mem.1 hx
  refine ⟨q, which_of hq (List.mem_append_left _ hxq), ?_⟩
  have h3 : x.kind ≠ 3 := by have := quests_mem.1 hxq; omega
  rw [decide_eq_false h3, decide_eq_false hk]
  unfold underB at hu
  cases hc : isCalled p with
  | true =>
    rw [hc] at hu
    have : isCalled q = false := by
      unfold isCalled
      simp at hu
      simp [hu.2]
    rw [this]; simp
  | false =>
    rw [hc] at hu
    simp at hu
    rw [hu]; simp
theorem answ_some {p : Pl} (h1 : 1 ≤ p.b.n) : 0 < (tellOf p).length ∧ 0 < (doneOf p).length := by
  unfold tellOf doneOf answ
  simp only [List.length_append, vals_length']
  omega
/-! ### The arena of what stands for an identifier -/
def innerOf (a : Ar) (t : Ty) : Ar := ⟨t.params.map (fun b => ⟨[], b⟩), t.result, a.jumps || decide (0 < t.params.length)⟩
def toInner (m : Mv) : Mv := ⟨m.arg, 0, m.kind, m.n⟩
def plInner (p : Pl) : Pl := ⟨p.b, p.arg, 0, p.jumps⟩
theorem quests_inner (p : Pl) : (quests p).map toInner = quests (plInner p) := by
  unfold quests plInner vals
  cases p.b.cell <;> simp [toInner, List.map_map, Function.comp_def]
theorem answ_inner (p : Pl) (n : Int) : (answ p n).map toInner = answ (plInner p) n := by
  unfold answ plInner vals
  cases p.jumps <;> simp [toInner, List.map_map, Function.comp_def]
theorem moves_inner (p : Pl) : (movesOf p).map toInner = movesOf (plInner p) := by
  unfold movesOf tellOf
  rw [List.map_append, quests_inner, answ_inner]
  rfl
theorem par_inner (i : Nat) (ju : Bool) : ∀ (bs : List Bs) (j : Nat), ju = true ∨ bs = [] → (parPl i j bs).map plInner = idPl ju j (bs.map fun b => ⟨[], b⟩)
  | [], _, _ => rfl
  | b :: bs, j, h => by
    obtain rfl : ju = true := by simpa using h
    rw [List.map_cons, idPl_cons, ← par_inner i true bs (j + 1) (.inl rfl), parPl, List.map_cons]
    unfold blk
    simp [parPl, plInner]
theorem inner_places (a : Ar) (i : Nat) (t : Ty) (ht : a.ids[i]? = some t) : ((places a).filter fun p => decide (p.id = ((i + 1 : Nat) : Int))).map plInner = places (innerOf a t) := by
  have hgen : ∀ (ts : List Ty) (n : Nat), (idPl a.jumps n ts).filter (fun p : Pl => decide (p.id = ((i + 1 : Nat) : Int))) = match ts[i - n]? with | none => [] | some t => if n ≤ i then blk a.jumps i t else [] := by
    intro ts
    induction ts with
    | nil => intro n; rfl
    | cons u ts ih =>
      intro n
      rw [idPl_cons, List.filter_append, ih (n + 1)]
      by_cases hn : n = i
      · subst hn
        rw [Nat.sub_self]
        have h1 : (blk a.jumps n u).filter (fun p : Pl => decide (p.id = ((n + 1 : Nat) : Int))) = blk a.jumps n u := by
          rw [List.filter_eq_self]
          intro p hp
          simp [(blk_mem hp).1]
        rw [h1]
        have hz : (match ts[n - (n + 1)]? with | none => ([] : List Pl) | some t => if n + 1 ≤ n then blk a.jumps n t else []) = [] := by
          split
          · rfl
          · rw [if_neg (by omega)]
        rw [hz]
        simp
      · have h1 : (blk a.jumps n u).filter (fun p : Pl => decide (p.id = ((i + 1 : Nat) : Int))) = [] := by
          rw [List.filter_eq_nil_iff]
          intro p hp
          have := (blk_mem hp).1
          simp [this]
          omega
        rw [h1, List.nil_append]
        by_cases hlt : n < i
        · rw [show i - n = (i - (n + 1)) + 1 by omega, List.getElem?_cons_succ]
          cases ts[i - (n + 1)]? with
          | none => rfl
          | some t => simp only; rw [if_pos (by omega), if_pos (by omega)]
        · rw [show i - n = 0 by omega, show i - (n + 1) = 0 by omega, List.getElem?_cons_zero]
          cases ts[0]? with
          | none => simp only; rw [if_neg (by omega)]
          | some t => simp only; rw [if_neg (by omega), if_neg (by omega)]
  unfold places
  rw [List.filter_cons, if_neg (by simp; omega), hgen, Nat.sub_zero, ht]
  simp only
  rw [if_pos (Nat.zero_le _)]
  unfold blk
  rw [List.map_cons, par_inner (i + 1) (innerOf a t).jumps t.params 0 (by
    unfold innerOf
    cases t.params with
    | nil => exact .inr rfl
    | cons b bs => exact .inl (by simp))]
  rfl
theorem inner_moves (a : Ar) (i : Nat) (t : Ty) (ht : a.ids[i]? = some t) : ((allMv a).filter fun m => decide (m.id = ((i + 1 : Nat) : Int))).map toInner = allMv (innerOf a t) := by
  unfold allMv movesBy
  rw [List.filter_eq_self.2 (fun _ _ => rfl), List.filter_eq_self.2 (fun _ _ => rfl), ← inner_places a i t ht]
  generalize places a = l
  induction l with
  | nil => rfl
  | cons p l ih =>
    rw [List.flatMap_cons, List.filter_append, List.map_append, ih, List.filter_cons]
    by_cases h : p.id = ((i + 1 : Nat) : Int)
    · have h1 : (movesOf p).filter (fun m => decide (m.id = ((i + 1 : Nat) : Int))) = movesOf p := by
        rw [List.filter_eq_self]
        intro m hm
        simp [(movesOf_mem hm).1, h]
      rw [h1, if_pos (by simp [h]), List.map_cons, List.flatMap_cons, moves_inner]
    · have h1 : (movesOf p).filter (fun m => decide (m.id = ((i + 1 : Nat) : Int))) = [] := by
        rw [List.filter_eq_nil_iff]
        intro m hm
        simp [(movesOf_mem hm).1]
        omega
      rw [h1, if_neg (by simp; omega)]
      rfl
theorem inner_side {p : Pl} (h : 0 < p.id) (k : Int) : (isCalled (plInner p) == decide (k = 3)) ≠ (isCalled p == decide (k = 3)) := by
  unfold isCalled plInner
  dsimp only
  rw [decide_eq_true (show p.id ≠ 0 by omega)]
  by_cases ha : p.arg = 0
  · simp [ha]
  · simp [ha]
end Go.Proofs.YtklfojmflmablaaGreatDoor
