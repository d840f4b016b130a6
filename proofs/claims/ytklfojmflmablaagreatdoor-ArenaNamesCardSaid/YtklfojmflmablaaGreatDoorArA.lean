/- Arenas: what the document says of them, as plain answers; the order of moves. -/
import Derived.WalkKit
namespace Go.Proofs.YtklfojmflmablaaGreatDoor
/-! What the document says of arenas, as plain answers. -/
structure Bs where
  cell : Bool
  n : Int
deriving DecidableEq
structure Ty where
  params : List Bs
  result : Bs
deriving DecidableEq
structure Ar where
  ids : List Ty
  root : Bs
  jumps : Bool
deriving DecidableEq
structure Mv where
  id : Int
  arg : Int
  kind : Int
  n : Int
deriving DecidableEq
structure Pl where
  b : Bs
  id : Int
  arg : Int
  jumps : Bool
deriving DecidableEq

def okBs (b : Bs) : Bool := decide (1 ≤ b.n) && decide (b.n ≤ 64)
def okTy (t : Ty) : Bool := (!(t.result.cell && decide (0 < t.params.length))) && (okBs t.result && t.params.all okBs)
def checkRes (a : Ar) : Int :=
  if decide (8 < a.ids.length) || a.ids.any (fun t => decide (5 < t.params.length)) then 5
  else if !(okBs a.root) || a.ids.any (fun t => !(okTy t)) then 4 else 0

/-- The places of an identifier's parameters, from the number j on. -/
def parPl (i : Nat) : Nat → List Bs → List Pl
  | _, [] => []
  | j, b :: bs => ⟨b, i, ((j + 1 : Nat) : Int), true⟩ :: parPl i (j + 1) bs
/-- The places of the identifiers from the number i on (0 first). -/
def idPl (jumps : Bool) : Nat → List Ty → List Pl
  | _, [] => []
  | i, t :: ts => (⟨t.result, ((i + 1 : Nat) : Int), 0, jumps || decide (0 < t.params.length)⟩ :: parPl (i + 1) 0 t.params) ++ idPl jumps (i + 1) ts
def places (a : Ar) : List Pl := ⟨a.root, 0, 0, a.jumps⟩ :: idPl a.jumps 0 a.ids

def vals (id arg kind : Int) (n : Nat) : List Mv := (List.range n).map fun (k : Nat) => ⟨id, arg, kind, (k : Int)⟩
def quests (p : Pl) : List Mv := ⟨p.id, p.arg, 1, 0⟩ :: (if p.b.cell then vals p.id p.arg 2 p.b.n.toNat else [])
def answ (p : Pl) (many : Int) : List Mv := (if p.jumps then [⟨p.id, p.arg, 3, -1⟩] else []) ++ vals p.id p.arg 3 many.toNat
def tellOf (p : Pl) : List Mv := answ p p.b.n
def doneOf (p : Pl) : List Mv := answ p 1
def movesOf (p : Pl) : List Mv := quests p ++ tellOf p
def isCalled (p : Pl) : Bool := decide (p.id ≠ 0) && decide (p.arg = 0)
def atB (id arg : Int) (p : Pl) : Bool := decide (p.id = id) && decide (p.arg = arg)
def underB (q p : Pl) : Bool := if isCalled q then decide (p.id = q.id) && decide (p.arg ≠ 0) else isCalled p
def movesBy (a : Ar) (so : Pl → Bool) (some : Pl → List Mv) : List Mv := ((places a).filter so).flatMap some
def allMv (a : Ar) : List Mv := movesBy a (fun _ => true) movesOf

/-- The base type of a place. -/
def placeOf (a : Ar) (id arg : Int) : Option Bs :=
  if id = 0 ∧ arg = 0 then some a.root
  else if id < 1 ∨ (a.ids.length : Int) < id then none
  else match a.ids[id.toNat - 1]? with
    | none => none
    | some t => if arg = 0 then some t.result else if arg < 1 ∨ (t.params.length : Int) < arg then none else t.params[arg.toNat - 1]?

def jumpsAt (a : Ar) (id arg : Int) : Bool := decide (0 < arg) || (a.jumps || (decide (0 < id) && decide (0 < ((a.ids[id.toNat - 1]?).map fun t => t.params.length).getD 0)))

theorem parPl_find (i : Nat) (id arg : Int) : ∀ (bs : List Bs) (j : Nat), (parPl i j bs).find? (atB id arg) =
    if id = i ∧ (j : Int) < arg then (bs[arg.toNat - (j + 1)]?).map (fun b => ⟨b, id, arg, true⟩) else none
  | [], j => by simp [parPl]
  | b :: bs, j => by
    rw [parPl, List.find?_cons, parPl_find i id arg bs (j + 1)]
    by_cases h1 : id = i
    · subst h1
      by_cases h2 : arg = ((j + 1 : Nat) : Int)
      · subst h2
        simp [atB, show (j : Int) < (j : Int) + 1 by omega, show ((j : Int) + 1).toNat = j + 1 by omega]
      · have h6 : atB (i : Int) arg ⟨b, i, ((j + 1 : Nat) : Int), true⟩ = false := by
          simp only [atB, Bool.and_eq_false_iff, decide_eq_false_iff_not]
          exact .inr fun h => h2 h.symm
        rw [h6]
        by_cases h3 : (j : Int) < arg
        · have h4 : ((j + 1 : Nat) : Int) < arg := by omega
          have h5 : arg.toNat - (j + 1) = (arg.toNat - (j + 1 + 1)) + 1 := by omega
          simp only [h3, h4, h5, List.getElem?_cons_succ, true_and, if_true]
        · have h4 : ¬ ((j + 1 : Nat) : Int) < arg := by omega
          simp only [h3, h4, and_false, if_false]
    · have h6 : atB id arg ⟨b, i, ((j + 1 : Nat) : Int), true⟩ = false := by
        simp only [atB, Bool.and_eq_false_iff, decide_eq_false_iff_not]
        exact .inl fun h => h1 h.symm
      rw [h6]
      simp [h1]

theorem idPl_find (ju : Bool) (id arg : Int) : ∀ (ts : List Ty) (i : Nat), (idPl ju i ts).find? (atB id arg) =
    if (i : Int) < id then
      match ts[id.toNat - (i + 1)]? with
      | none => none
      | some t => if arg = 0 then some ⟨t.result, id, arg, ju || decide (0 < t.params.length)⟩ else if 0 < arg then (t.params[arg.toNat - 1]?).map (fun b => ⟨b, id, arg, true⟩) else none
    else none
  | [], i => by simp [idPl]
  | t :: ts, i => by
    rw [idPl, List.find?_append, List.find?_cons, parPl_find, idPl_find ju id arg ts (i + 1)]
    by_cases h1 : id = ((i + 1 : Nat) : Int)
    · subst h1
      have h0 : ¬ (((i + 1 : Nat) : Int) < ((i + 1 : Nat) : Int)) := by omega
      have h2 : (i : Int) < ((i + 1 : Nat) : Int) := by omega
      rw [if_neg h0, if_pos h2]
      have h3 : (((i + 1 : Nat) : Int)).toNat - (i + 1) = 0 := by omega
      rw [h3]
      by_cases h4 : arg = 0
      · subst h4
        simp [atB]
      · have h6 : atB ((i + 1 : Nat) : Int) arg ⟨t.result, ((i + 1 : Nat) : Int), 0, ju || decide (0 < t.params.length)⟩ = false := by
          simp only [atB, Bool.and_eq_false_iff, decide_eq_false_iff_not]
          exact .inr fun h => h4 h.symm
        rw [h6]
        simp [h4]
    · have h6 : atB id arg ⟨t.result, ((i + 1 : Nat) : Int), 0, ju || decide (0 < t.params.length)⟩ = false := by
        simp only [atB, Bool.and_eq_false_iff, decide_eq_false_iff_not]
        exact .inl fun h => h1 h.symm
      rw [h6]
      have h7 : ¬ (id = ((i + 1 : Nat) : Int) ∧ ((0 : Nat) : Int) < arg) := fun h => h1 h.1
      rw [if_neg h7]
      by_cases h2 : (i : Int) < id
      · have h8 : ((i + 1 : Nat) : Int) < id := by omega
        have h5 : id.toNat - (i + 1) = (id.toNat - (i + 1 + 1)) + 1 := by omega
        rw [if_pos h2, if_pos h8, h5, List.getElem?_cons_succ]
        rfl
      · have h8 : ¬ ((i + 1 : Nat) : Int) < id := by omega
        rw [if_neg h2, if_neg h8]
        rfl

/-- The place that is found has the numbers that were looked for. -/
def plAt (a : Ar) (id arg : Int) : Option Pl := (places a).find? (atB id arg)
theorem plAt_eq (a : Ar) (id arg : Int) : plAt a id arg = (placeOf a id arg).map fun b => ⟨b, id, arg, jumpsAt a id arg⟩ := by
  unfold plAt places
  rw [List.find?_cons, idPl_find]
  by_cases h0 : id = 0 ∧ arg = 0
  · obtain ⟨rfl, rfl⟩ := h0
    simp [atB, placeOf, jumpsAt]
  · have h6 : atB id arg ⟨a.root, 0, 0, a.jumps⟩ = false := by
      simp only [atB, Bool.and_eq_false_iff, decide_eq_false_iff_not]
      rcases Classical.em (id = 0) with h | h
      · exact .inr fun e => h0 ⟨h, e.symm⟩
      · exact .inl fun e => h e.symm
    rw [h6]
    simp only [placeOf, if_neg h0]
    by_cases h1 : id < 1
    · rw [if_pos (Or.inl h1), if_neg (by omega)]; rfl
    · rw [if_pos (show ((0 : Nat) : Int) < id by omega)]
      by_cases h2 : (a.ids.length : Int) < id
      · rw [if_pos (Or.inr h2)]
        have : a.ids[id.toNat - (0 + 1)]? = none := by simp; omega
        rw [this]; rfl
      · rw [if_neg (by omega)]
        have h3 : id.toNat - 1 < a.ids.length := by omega
        have h4 : a.ids[id.toNat - (0 + 1)]? = some a.ids[id.toNat - 1] := by simp [h3]
        have h4' : a.ids[id.toNat - 1]? = some a.ids[id.toNat - 1] := by simp [h3]
        rw [h4]
        simp only []
        by_cases h5 : arg = 0
        · subst h5
          simp [jumpsAt, h4', show 0 < id by omega]
        · rw [if_neg h5, if_neg h5]
          by_cases h7 : 0 < arg
          · rw [if_pos h7]
            by_cases h8 : ((a.ids[id.toNat - 1]).params.length : Int) < arg
            · rw [if_pos (Or.inr h8)]
              have : (a.ids[id.toNat - 1]).params[arg.toNat - 1]? = none := by simp; omega
              rw [this]; rfl
            · rw [if_neg (by omega)]
              simp [jumpsAt, h7]
          · rw [if_neg h7, if_pos (by omega)]; rfl

def blk (ju : Bool) (i : Nat) (t : Ty) : List Pl := ⟨t.result, ((i + 1 : Nat) : Int), 0, ju || decide (0 < t.params.length)⟩ :: parPl (i + 1) 0 t.params
theorem idPl_cons (ju : Bool) (i : Nat) (t : Ty) (ts : List Ty) : idPl ju i (t :: ts) = blk ju i t ++ idPl ju (i + 1) ts := rfl
theorem idPl_snoc (ju : Bool) (t : Ty) : ∀ (ts : List Ty) (i : Nat), idPl ju i (ts ++ [t]) = idPl ju i ts ++ blk ju (i + ts.length) t
  | [], i => by rw [List.nil_append, idPl_cons]; simp [idPl]
  | u :: ts, i => by rw [List.cons_append, idPl_cons, idPl_cons, idPl_snoc ju t ts, List.append_assoc, show i + 1 + ts.length = i + (u :: ts).length by simp; omega]
theorem parPl_snoc (i : Nat) (b : Bs) : ∀ (bs : List Bs) (j : Nat), parPl i j (bs ++ [b]) = parPl i j bs ++ [⟨b, i, ((j + bs.length + 1 : Nat) : Int), true⟩]
  | [], j => rfl
  | c :: bs, j => by rw [List.cons_append, parPl, parPl, parPl_snoc i b bs, List.cons_append, show j + 1 + bs.length + 1 = j + (c :: bs).length + 1 by simp; omega]

/-- The moves of the place with two numbers; none, if there is none. -/
def cellMv (a : Ar) (id arg : Int) : List Mv := match placeOf a id arg with | none => [] | some b => movesOf ⟨b, id, arg, jumpsAt a id arg⟩
def rowMv (a : Ar) (id : Int) : List Mv := (List.range 6).flatMap fun (arg : Nat) => cellMv a id (arg : Int)
def refAll (a : Ar) : List Mv := (List.range (a.ids.length + 1)).flatMap fun (id : Nat) => rowMv a (id : Int)

theorem par_row (i : Nat) (bs : List Bs) : ∀ n, (List.range n).flatMap (fun (k : Nat) => match bs[k]? with | none => [] | some b => movesOf ⟨b, (i : Int), ((k + 1 : Nat) : Int), true⟩) = (parPl i 0 (bs.take n)).flatMap movesOf
  | 0 => by simp [parPl]
  | n + 1 => by
    rw [List.range_succ, List.flatMap_append, par_row i bs n]
    by_cases h : n < bs.length
    · rw [List.take_succ_eq_append_getElem h, parPl_snoc, List.flatMap_append]
      simp [h, Nat.min_eq_left (Nat.le_of_lt h)]
    · rw [List.take_of_length_le (by omega), List.take_of_length_le (by omega)]
      simp [h]

theorem row_succ (a : Ar) (i : Nat) (h : i < a.ids.length) (h5 : (a.ids[i]).params.length ≤ 5) : rowMv a ((i + 1 : Nat) : Int) = (blk a.jumps i a.ids[i]).flatMap movesOf := by
  have e0 : ∀ arg : Int, placeOf a ((i + 1 : Nat) : Int) arg = if arg = 0 then some (a.ids[i]).result else if arg < 1 ∨ ((a.ids[i]).params.length : Int) < arg then none else (a.ids[i]).params[arg.toNat - 1]? := fun arg => by
    unfold placeOf
    rw [if_neg (by omega), if_neg (by omega)]
    have : a.ids[((i + 1 : Nat) : Int).toNat - 1]? = some a.ids[i] := by
      rw [show ((i + 1 : Nat) : Int).toNat - 1 = i by omega]; simp [h]
    rw [this]
  have hj : ∀ arg : Int, jumpsAt a ((i + 1 : Nat) : Int) arg = (decide (0 < arg) || (a.jumps || decide (0 < (a.ids[i]).params.length))) := fun arg => by
    unfold jumpsAt
    have : a.ids[((i + 1 : Nat) : Int).toNat - 1]? = some a.ids[i] := by
      rw [show ((i + 1 : Nat) : Int).toNat - 1 = i by omega]; simp [h]
    rw [this]
    have h0 : decide (0 < ((i + 1 : Nat) : Int)) = true := decide_eq_true (by omega)
    rw [h0]
    simp
  unfold rowMv blk
  rw [List.flatMap_cons, ← List.take_of_length_le h5, ← par_row (i + 1) (a.ids[i]).params 5]
  rw [show (List.range 6) = 0 :: (List.range 5).map Nat.succ from rfl, List.flatMap_cons, List.flatMap_map]
  congr 1
  · unfold cellMv
    rw [e0, if_pos (by rfl), hj, List.take_of_length_le h5]
    simp
  · congr 1
    funext k
    unfold cellMv
    rw [e0, hj, if_neg (by omega)]
    have hd : decide (0 < ((k.succ : Nat) : Int)) = true := decide_eq_true (by omega)
    rw [hd, Bool.true_or]
    by_cases hk : k < (a.ids[i]).params.length
    · rw [if_neg (by omega), show ((k.succ : Nat) : Int).toNat - 1 = k by omega]
      try simp [hk]
    · rw [if_pos (.inr (by omega))]
      try simp [hk]

theorem refAll_eq (a : Ar) (h5 : ∀ t ∈ a.ids, t.params.length ≤ 5) : refAll a = allMv a := by
  have hz : rowMv a ((0 : Nat) : Int) = movesOf ⟨a.root, 0, 0, a.jumps⟩ := by
    unfold rowMv
    rw [show (List.range 6) = 0 :: (List.range 5).map Nat.succ from rfl, List.flatMap_cons, List.flatMap_map]
    have : (List.range 5).flatMap (fun k => cellMv a ((0 : Nat) : Int) ((k.succ : Nat) : Int)) = [] := by
      rw [List.flatMap_eq_nil_iff]
      intro k _
      unfold cellMv placeOf
      rw [if_neg (by omega), if_pos (.inl (by omega))]
    rw [this, List.append_nil]
    unfold cellMv placeOf jumpsAt
    simp
  have hr : ∀ n, n ≤ a.ids.length → (List.range n).flatMap (fun i => rowMv a ((i.succ : Nat) : Int)) = (idPl a.jumps 0 (a.ids.take n)).flatMap movesOf := by
    intro n
    induction n with
    | zero => intro _; simp [idPl]
    | succ n ih =>
      intro hn
      rw [List.range_succ, List.flatMap_append, ih (by omega), List.take_succ_eq_append_getElem (by omega), idPl_snoc, List.flatMap_append]
      congr 1
      rw [List.flatMap_cons, List.flatMap_nil, List.append_nil]
      have := row_succ a n (by omega) (h5 _ (List.getElem_mem _))
      rw [this]
      simp [Nat.min_eq_left (show n ≤ a.ids.length by omega)]
  unfold refAll allMv movesBy places
  rw [show List.range (a.ids.length + 1) = 0 :: (List.range a.ids.length).map Nat.succ from List.range_succ_eq_map, List.flatMap_cons, List.flatMap_map, hz, hr _ (Nat.le_refl _), List.take_length]
  rw [List.filter_eq_self.2 (fun _ _ => rfl), List.flatMap_cons]

/-! ### The order -/
def lessMv (a b : Mv) : Bool :=
  decide (a.id < b.id) || (decide (a.id = b.id) && (decide (a.arg < b.arg) || (decide (a.arg = b.arg) && (decide (a.kind < b.kind) || (decide (a.kind = b.kind) && decide (a.n < b.n))))))
theorem less_irrefl (a : Mv) : lessMv a a = false := by simp [lessMv]
theorem less_asymm (a b : Mv) : (lessMv a b && lessMv b a) = false := by
  simp only [lessMv, Bool.and_eq_false_iff]
  rcases Classical.em (a.id < b.id ∨ (a.id = b.id ∧ (a.arg < b.arg ∨ (a.arg = b.arg ∧ (a.kind < b.kind ∨ (a.kind = b.kind ∧ a.n < b.n)))))) with h | h
  · right; simp; omega
  · left; simp; omega
theorem less_trans (a b c : Mv) (h : lessMv a b = true) (k : lessMv b c = true) : lessMv a c = true := by
  simp [lessMv] at h k ⊢; omega
theorem less_total (a b : Mv) : (decide (a = b)) = (!lessMv a b && !lessMv b a) := by
  cases a; cases b
  simp only [Mv.mk.injEq, lessMv]
  rw [Bool.eq_iff_iff]
  simp
  omega
end Go.Proofs.YtklfojmflmablaaGreatDoor
