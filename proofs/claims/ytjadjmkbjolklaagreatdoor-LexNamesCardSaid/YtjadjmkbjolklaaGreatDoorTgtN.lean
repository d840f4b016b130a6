/- The contract of the reference's Pairs. -/
import Derived.Test.YtjadjmkbjolklaaGreatDoorTgtM
import Derived.Test.YtjadjmkbjolklaaGreatDoorTgtB
import Derived.BigRegion
import Derived.StillTailTactics
import Derived.Deep.RegionHeld3
namespace Go.Proofs.YtjadjmkbjolklaaGreatDoor
open Go Go.RowKit Go.Maps

theorem opn_kind {x : Tk} (hx : rightT x = true) (h : x.text = ⟨#[40]⟩ ∨ x.text = ⟨#[123]⟩) : x.kind = 4 := by
  obtain ⟨c, q, e1, _, _, _, _, e6⟩ := right_pc hx
  have hc : cls c.toNat = 5 := by
    rcases h with h | h <;> (rw [h] at e1; simp only at e1; cases e1; decide)
  rcases e6 with ⟨h2, _⟩ | ⟨h2, _⟩ | ⟨_, h2⟩
  · rw [hc] at h2
    exact absurd h2 (by decide)
  · rw [hc] at h2
    exact absurd h2 (by decide)
  · exact h2

/-- What closes, by the text alone. -/
def clsT (t : ByteArray) : ByteArray := if t = ⟨#[40]⟩ then ⟨#[41]⟩ else if t = ⟨#[123]⟩ then ⟨#[125]⟩ else ⟨#[]⟩

theorem clsP_T {x : Tk} (hx : rightT x = true) : clsP x = clsT x.text := by
  unfold clsP clsT
  by_cases h1 : x.text = ⟨#[40]⟩
  · rw [if_pos ⟨opn_kind hx (.inl h1), h1⟩, if_pos h1]
  · rw [if_neg (fun h => h1 h.2), if_neg h1]
    by_cases h2 : x.text = ⟨#[123]⟩
    · rw [if_pos ⟨opn_kind hx (.inr h2), h2⟩, if_pos h2]
    · rw [if_neg (fun h => h2 h.2), if_neg h2]

theorem clsT_open (t : ByteArray) : (clsT t).toList.isEmpty = !isOpn t := by
  rw [Lib.toList_data]
  unfold clsT isOpn
  by_cases h1 : t = ⟨#[40]⟩
  · rw [if_pos h1, decide_eq_true h1]
    rfl
  · rw [if_neg h1, decide_eq_false h1]
    by_cases h2 : t = ⟨#[123]⟩
    · rw [if_pos h2, decide_eq_true h2]
      rfl
    · rw [if_neg h2, decide_eq_false h2]
      rfl

theorem mate_cls {t m y : ByteArray} (h : mateOf t = some m) : (clsT y = t) ↔ (y = m) := by
  unfold mateOf at h
  unfold clsT
  split at h
  · rename_i h1
    cases h
    subst h1
    constructor
    · intro e
      split at e
      · assumption
      · split at e
        · exact absurd (congrArg (fun b : ByteArray => b.data) e) (by decide)
        · exact absurd (congrArg (fun b : ByteArray => b.data) e) (by decide)
    · intro e
      rw [if_pos e]
  · split at h
    · rename_i h1 h2
      cases h
      subst h2
      constructor
      · intro e
        split at e
        · exact absurd (congrArg (fun b : ByteArray => b.data) e) (by decide)
        · split at e
          · assumption
          · exact absurd (congrArg (fun b : ByteArray => b.data) e) (by decide)
      · intro e
        rw [if_neg (by rw [e]; intro e2; exact absurd (congrArg (fun b : ByteArray => b.data) e2) (by decide)), if_pos e]
    · cases h

theorem mate_none {t : ByteArray} : mateOf t = none ↔ (t.toList == [41]) = false ∧ (t.toList == [125]) = false := by
  rw [toList_lit, toList_lit]
  unfold mateOf
  by_cases h1 : t = ⟨#[41]⟩
  · rw [if_pos h1]
    simp [h1]
  · rw [if_neg h1]
    by_cases h2 : t = ⟨#[125]⟩
    · rw [if_pos h2]
      simp [h2]
    · rw [if_neg h2]
      simp [h1, h2]

section
variable {l : List Tk} {k : Nat} {x : Tk} {ps : List Int} {os : List Nat}

theorem step_open (hx : l[k]? = some x) (h : isOpn x.text = true) : prsStep l k ps os = some (ps ++ [-1], os ++ [k]) := by
  obtain ⟨hk, rfl⟩ := List.getElem?_eq_some_iff.1 hx
  unfold prsStep
  rw [getElem!_pos l k hk, if_pos h]

theorem step_other (hx : l[k]? = some x) (h : isOpn x.text = false) (hm : mateOf x.text = none) : prsStep l k ps os = some (ps ++ [-1], os) := by
  obtain ⟨hk, rfl⟩ := List.getElem?_eq_some_iff.1 hx
  unfold prsStep
  rw [getElem!_pos l k hk, if_neg (by simp [h]), hm]

theorem step_none (hx : l[k]? = some x) (h : isOpn x.text = false) {m : ByteArray} (hm : mateOf x.text = some m) : prsStep l k ps [] = none := by
  obtain ⟨hk, rfl⟩ := List.getElem?_eq_some_iff.1 hx
  unfold prsStep
  rw [getElem!_pos l k hk, if_neg (by simp [h]), hm]
  rfl

theorem step_close (hx : l[k]? = some x) (h : isOpn x.text = false) {m : ByteArray} (hm : mateOf x.text = some m) {j : Nat} {y : Tk} (hy : l[j]? = some y) :
    prsStep l k ps (os ++ [j]) = if y.text = m then some (((ps ++ [-1]).set k j).set j k, os) else none := by
  obtain ⟨hk, rfl⟩ := List.getElem?_eq_some_iff.1 hx
  obtain ⟨hj, rfl⟩ := List.getElem?_eq_some_iff.1 hy
  unfold prsStep
  rw [getElem!_pos l k hk, if_neg (by simp [h]), hm]
  simp only [List.getLast?_append, List.getLast?_singleton, Option.some_or, getElem!_pos l j hj, List.dropLast_concat]

theorem go_some {f : Nat} {ps' : List Int} {os' : List Nat} (h : prsStep l k ps os = some (ps', os')) : prsGo l (f + 1) k ps os = prsGo l f (k + 1) ps' os' := by
  rw [prsGo, h]

theorem go_none {f : Nat} (h : prsStep l k ps os = none) : prsGo l (f + 1) k ps os = ([], (k : Int), 4) := by
  rw [prsGo, h]
end

theorem listErr_ok' {l : List Tk} (h : listErr l = 0) : ∀ x ∈ l, rightT x = true := by
  unfold listErr at h
  split at h
  · cases h
  · split at h
    · rename_i h1 h2
      exact List.all_eq_true.1 h2
    · cases h

def natI (l : List Nat) : List Int := l.map Int.ofNat

theorem ints_app {W : World} {n₀ : Nat} {v : Value} {l : List Int} {x : Int} (h : W.ownsRow n₀ 3 1 v (l.length + 1) (intCells l ++ [.int .i64 x])) : W.ownsRow n₀ 3 1 v (l ++ [x]).length (intCells (l ++ [x])) := by
  have : intCells (l ++ [x]) = intCells l ++ [.int .i64 x] := by unfold intCells; simp
  rw [this, List.length_append]
  exact h

theorem nat_app {W : World} {n₀ : Nat} {v : Value} {os : List Nat} {k : Nat} (h : W.ownsRow n₀ 3 1 v ((natI os).length + 1) (intCells (natI os) ++ [.int .i64 k])) : W.ownsRow n₀ 3 1 v (natI (os ++ [k])).length (intCells (natI (os ++ [k]))) := by
  have : natI (os ++ [k]) = natI os ++ [(k : Int)] := by unfold natI; simp
  rw [this]
  exact ints_app h

theorem mem_step {os : List Nat} {k : Nat} (h : ∀ j ∈ os, j < k) : ∀ j ∈ os ++ [k], j < k + 1 := by
  intro j hj
  rcases List.mem_append.1 hj with h1 | h1
  · have := h j h1
    omega
  · simp at h1
    omega

theorem mate_or {t m : ByteArray} (h : mateOf t = some m) : ((t.toList == [41]) = true) ∨ ((t.toList == [41]) = false ∧ (t.toList == [125]) = true) := by
  rw [toList_lit, toList_lit]
  unfold mateOf at h
  by_cases h1 : t = ⟨#[41]⟩
  · exact .inl (decide_eq_true h1)
  · rw [if_neg h1] at h
    by_cases h2 : t = ⟨#[125]⟩
    · exact .inr ⟨decide_eq_false h1, decide_eq_true h2⟩
    · rw [if_neg h2] at h
      cases h

theorem nil_or_snoc (l : List Nat) : l = [] ∨ ∃ L b, l = L ++ [b] := by
  rcases List.eq_nil_or_concat l with h | ⟨L, b, h⟩
  · exact .inl h
  · exact .inr ⟨L, b, by rw [h, List.concat_eq_append]⟩

theorem nat_last (os : List Nat) (j : Nat) : (intCells (natI (os ++ [j])))[os.length]? = some (.int .i64 j) := by
  unfold intCells natI
  simp

theorem own_room {W : World} {n₀ : Nat} {e : TypeId} {size g n c : Nat} {xs : List Value} (h : W.ownsRow n₀ e size (.slice (some ⟨g, 0, none⟩) n c) n xs) : n ≤ c := by
  rcases h.2 with ⟨h', _⟩ | ⟨g', cap, cur, h', _, _, hc, _⟩
  · cases h'
  · cases h'
    exact hc

theorem close_step {w W : World} {n₀ g6 c6 g7 c7 k j p n1 K1 : Nat} {ps : List Int} {os : List Nat} (HB : Below n₀ w W)
    (h6 : W.ownsRow n₀ 3 1 (.slice (some ⟨g6, 0, none⟩) K1 c6) K1 (intCells ps)) (h7 : W.ownsRow n₀ 3 1 (.slice (some ⟨g7, 0, none⟩) n1 c7) n1 (intCells (natI (os ++ [j]))))
    (hK : ps.length = K1) (hp : p = os.length) (hn : n1 = p + 1) (hne : g6 ≠ g7) :
    (((W.setCell ⟨g6, k, none⟩ (.int .i64 j)).setCell ⟨g6, j, none⟩ (.int .i64 k)).drew).ownsRow n₀ 3 1 (.slice (some ⟨g6, 0, none⟩) K1 c6) ((ps.set k j).set j k).length (intCells ((ps.set k j).set j k)) ∧
    (((W.setCell ⟨g6, k, none⟩ (.int .i64 j)).setCell ⟨g6, j, none⟩ (.int .i64 k)).drew).ownsRow n₀ 3 1 (.slice (some ⟨g7, 0, none⟩) p c7) (natI os).length (intCells (natI os)) ∧
    Below n₀ w (((W.setCell ⟨g6, k, none⟩ (.int .i64 j)).setCell ⟨g6, j, none⟩ (.int .i64 k)).drew) := by
  have hb : n₀ ≤ g6 := row_base h6 rfl
  have a := World.ownsRow.stored h6 k (.int .i64 j)
  have b := World.ownsRow.stored a.1 j (.int .i64 k)
  have ne : (Value.slice (some ⟨g7, 0, none⟩) n1 c7).ownBlock = none ∨ (Value.slice (some ⟨g7, 0, none⟩) n1 c7).ownBlock ≠ some g6 :=
    .inr (by simp only [Value.ownBlock, ne_eq, Option.some.injEq]; exact fun e => hne e.symm)
  have c := (h7.kept a.2 ne).kept b.2 ne
  refine ⟨?_, ?_, ((HB.setCell (p := ⟨g6, k, none⟩) hb _).setCell (p := ⟨g6, j, none⟩) hb _).drew⟩
  · have e1 : ((ps.set k (j : Int)).set j (k : Int)).length = K1 := by simp [hK]
    have e2 : intCells ((ps.set k (j : Int)).set j (k : Int)) = ((intCells ps).set k (.int .i64 j)).set j (.int .i64 k) := by
      unfold intCells
      rw [List.map_set, List.map_set]
    rw [e1, e2]
    exact b.1
  · have e1 : (natI os).length = p := by unfold natI; simp [hp]
    rw [e1]
    rw [hn] at c
    have e2 : intCells (natI (os ++ [j])) = intCells (natI os) ++ [.int .i64 j] := by unfold intCells natI; simp
    rw [e2] at c
    exact ownsRow_pop (by unfold intCells; simp [e1]) c

theorem intIn_nil (W : World) (B : Nat) : IntIn W B (.slice none 0 0) [] := ⟨none, 0, rfl, fun i x h => by simp at h⟩

end Go.Proofs.YtjadjmkbjolklaaGreatDoor
