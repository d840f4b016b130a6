/- The contract of the reference's Pairs. -/
import Derived.Test.YtjadjmkbjolklaaDoorTgtM
import Derived.Test.YtjadjmkbjolklaaDoorTgtB
import Derived.BigRegion
import Derived.StillTailTactics
import Derived.Deep.RegionHeld3
namespace Go.Proofs.YtjadjmkbjolklaaDoor
open Go Go.RowKit Go.Maps

theorem opn_kind {x : Tk} (hx : rightT x = true) (h : x.text = ⟨#[40]⟩ ∨ x.text = ⟨#[123]⟩) : x.kind = 4 := by
  obtain ⟨c, q, e1, _, _, _, _, e6⟩ := right_pc hx
  have hc : cls c.toNat = 5 := by
    rcases h with h | h <;> (rw [h] at e1; simp only at e1; cases e1; decide)
  rcases e6 with ⟨h2, _⟩ | ⟨h2, _⟩ | ⟨_, h2⟩
  · rw [hc] at h2
    exact absurd h2 (by decide)
  · rw [hc] at h2
    exact absurd h2 (by decide)
  · exact h2

/-- What closes, by the text alone. -/
def clsT (t : ByteArray) : ByteArray := if t = ⟨#[40]⟩ then ⟨#[41]⟩ else if t = ⟨#[123]⟩ then ⟨#[125]⟩ else ⟨#[]⟩

theorem clsP_T {x : Tk} (hx : rightT x = true) : clsP x = clsT x.text := by
  unfold clsP clsT
  by_cases h1 : x.text = ⟨#[40]⟩
  · rw [if_pos ⟨opn_kind hx (.inl h1), h1⟩, if_pos h1]
  · rw [if_neg (fun h => h1 h.2), if_neg h1]
    by_cases h2 : x.text = ⟨#[123]⟩
    · rw [if_pos ⟨opn_kind hx (.inr h2), h2⟩, if_pos h2]
    · rw [if_neg (fun h => h2 h.2), if_neg h2]

theorem clsT_open (t : ByteArray) : (clsT t).toList.isEmpty = !isOpn t := by
  rw [Lib.toList_data]
  unfold clsT isOpn
  by_cases h1 : t = ⟨#[40]⟩
  · rw [if_pos h1, decide_eq_true h1]
    rfl
  · rw [if_neg h1, decide_eq_false h1]
    by_cases h2 : t = ⟨#[123]⟩
    · rw [if_pos h2, decide_eq_true h2]
      rfl
    · rw [if_neg h2, decide_eq_false h2]
      rfl

theorem mate_cls {t m y : ByteArray} (h : mateOf t = some m) : (clsT y = t) ↔ (y = m) := by
  unfold mateOf at h
  unfold clsT
  split at h
  · rename_i h1
    cases h
    subst h1
    constructor
    · intro e
      split at e
      · assumption
      · split at e
        · exact absurd (congrArg (fun b : ByteArray => b.data) e) (by decide)
        · exact absurd (congrArg (fun b : ByteArray => b.data) e) (by decide)
    · intro e
      rw [if_pos e]
  · split at h
    · rename_i h1 h2
      cases h
      subst h2
      constructor
      · intro e
        split at e
        · exact absurd (congrArg (fun b : ByteArray => b.data) e) (by decide)
        · split at e
          · assumption
          · exact absurd (congrArg (fun b : ByteArray => b.data) e) (by decide)
      · intro e
        rw [if_neg (by rw [e]; intro e2; exact absurd (congrArg (fun b : ByteArray => b.data) e2) (by decide)), if_pos e]
    · cases h

theorem mate_none {t : ByteArray} : mateOf t = none ↔ (t.toList == [41]) = false ∧ (t.toList == [125]) = false := by
  rw [toList_lit, toList_lit]
  unfold mateOf
  by_cases h1 : t = ⟨#[41]⟩
  · rw [if_pos h1]
    simp [h1]
  · rw [if_neg h1]
    by_cases h2 : t = ⟨#[125]⟩
    · rw [if_pos h2]
      simp [h2]
    · rw [if_neg h2]
      simp [h1, h2]

section
variable {l : List Tk} {k : Nat} {x : Tk} {ps : List Int} {os : List Nat}

theorem step_open (hx : l[k]? = some x) (h : isOpn x.text = true) : prsStep l k ps os = some (ps ++ [-1], os ++ [k]) := by
  obtain ⟨hk, rfl⟩ := List.getElem?_eq_some_iff.1 hx
  unfold prsStep
  rw [getElem!_pos l k hk, if_pos h]

theorem step_other (hx : l[k]? = some x) (h : isOpn x.text = false) (hm : mateOf x.text = none) : prsStep l k ps os = some (ps ++ [-1], os) := by
  obtain ⟨hk, rfl⟩ := List.getElem?_eq_some_iff.1 hx
  unfold prsStep
  rw [getElem!_pos l k hk, if_neg (by simp [h]), hm]

theorem step_none (hx : l[k]? = some x) (h : isOpn x.text = false) {m : ByteArray} (hm : mateOf x.text = some m) : prsStep l k ps [] = none := by
  obtain ⟨hk, rfl⟩ := List.getElem?_eq_some_iff.1 hx
  unfold prsStep
  rw [getElem!_pos l k hk, if_neg (by simp [h]), hm]
  rfl

theorem step_close (hx : l[k]? = some x) (h : isOpn x.text = false) {m : ByteArray} (hm : mateOf x.text = some m) {j : Nat} {y : Tk} (hy : l[j]? = some y) :
    prsStep l k ps (os ++ [j]) = if y.text = m then some (((ps ++ [-1]).set k j).set j k, os) else none := by
  obtain ⟨hk, rfl⟩ := List.getElem?_eq_some_iff.1 hx
  obtain ⟨hj, rfl⟩ := List.getElem?_eq_some_iff.1 hy
  unfold prsStep
  rw [getElem!_pos l k hk, if_neg (by simp [h]), hm]
  simp only [List.getLast?_append, List.getLast?_singleton, Option.some_or, getElem!_pos l j hj, List.dropLast_concat]

theorem go_some {f : Nat} {ps' : List Int} {os' : List Nat} (h : prsStep l k ps os = some (ps', os')) : prsGo l (f + 1) k ps os = prsGo l f (k + 1) ps' os' := by
  rw [prsGo, h]

theorem go_none {f : Nat} (h : prsStep l k ps os = none) : prsGo l (f + 1) k ps os = ([], (k : Int), 4) := by
  rw [prsGo, h]
end

theorem listErr_ok' {l : List Tk} (h : listErr l = 0) : ∀ x ∈ l, rightT x = true := by
  unfold listErr at h
  split at h
  · cases h
  · split at h
    · rename_i h1 h2
      exact List.all_eq_true.1 h2
    · cases h

def natI (l : List Nat) : List Int := l.map Int.ofNat

theorem ints_app {W : World} {n₀ : Nat} {v : Value} {l : List Int} {x : Int} (h : W.ownsRow n₀ 3 1 v (l.length + 1) (intCells l ++ [.int .i64 x])) : W.ownsRow n₀ 3 1 v (l ++ [x]).length (intCells (l ++ [x])) := by
  have : intCells (l ++ [x]) = intCells l ++ [.int .i64 x] := by unfold intCells; simp
  rw [this, List.length_append]
  exact h

theorem nat_app {W : World} {n₀ : Nat} {v : Value} {os : List Nat} {k : Nat} (h : W.ownsRow n₀ 3 1 v ((natI os).length + 1) (intCells (natI os) ++ [.int .i64 k])) : W.ownsRow n₀ 3 1 v (natI (os ++ [k])).length (intCells (natI (os ++ [k]))) := by
  have : natI (os ++ [k]) = natI os ++ [(k : Int)] := by unfold natI; simp
  rw [this]
  exact ints_app h

theorem mem_step {os : List Nat} {k : Nat} (h : ∀ j ∈ os, j < k) : ∀ j ∈ os ++ [k], j < k + 1 := by
  intro j hj
  rcases List.mem_append.1 hj with h1 | h1
  · have := h j h1
    omega
  · simp at h1
    omega

theorem mate_or {t m : ByteArray} (h : mateOf t = some m) : ((t.toList == [41]) = true) ∨ ((t.toList == [41]) = false ∧ (t.toList == [125]) = true) := by
  rw [toList_lit, toList_lit]
  unfold mateOf at h
  by_cases h1 : t = ⟨#[41]⟩
  · exact .inl (decide_eq_true h1)
  · rw [if_neg h1] at h
    by_cases h2 : t = ⟨#[125]⟩
    · exact .inr ⟨decide_eq_false h1, decide_eq_true h2⟩
    · rw [if_neg h2] at h
      cases h

theorem nil_or_snoc (l : List Nat) : l = [] ∨ ∃ L b, l = L ++ [b] := by
  rcases List.eq_nil_or_concat l with h | ⟨L, b, h⟩
  · exact .inl h
  · exact .inr ⟨L, b, by rw [h, List.concat_eq_append]⟩

theorem nat_last (os : List Nat) (j : Nat) : (intCells (natI (os ++ [j])))[os.length]? = some (.int .i64 j) := by
  unfold intCells natI
  simp

theorem own_room {W : World} {n₀ : Nat} {e : TypeId} {size g n c : Nat} {xs : List Value} (h : W.ownsRow n₀ e size (.slice (some ⟨g, 0, none⟩) n c) n xs) : n ≤ c := by
  rcases h.2 with ⟨h', _⟩ | ⟨g', cap, cur, h', _, _, hc, _⟩
  · cases h'
  · cases h'
    exact hc

theorem close_step {w W : World} {n₀ g6 c6 g7 c7 k j p n1 K1 : Nat} {ps : List Int} {os : List Nat} (HB : Below n₀ w W)
    (h6 : W.ownsRow n₀ 3 1 (.slice (some ⟨g6, 0, none⟩) K1 c6) K1 (intCells ps)) (h7 : W.ownsRow n₀ 3 1 (.slice (some ⟨g7, 0, none⟩) n1 c7) n1 (intCells (natI (os ++ [j]))))
    (hK : ps.length = K1) (hp : p = os.length) (hn : n1 = p + 1) (hne : g6 ≠ g7) :
    (((W.setCell ⟨g6, k, none⟩ (.int .i64 j)).setCell ⟨g6, j, none⟩ (.int .i64 k)).drew).ownsRow n₀ 3 1 (.slice (some ⟨g6, 0, none⟩) K1 c6) ((ps.set k j).set j k).length (intCells ((ps.set k j).set j k)) ∧
    (((W.setCell ⟨g6, k, none⟩ (.int .i64 j)).setCell ⟨g6, j, none⟩ (.int .i64 k)).drew).ownsRow n₀ 3 1 (.slice (some ⟨g7, 0, none⟩) p c7) (natI os).length (intCells (natI os)) ∧
    Below n₀ w (((W.setCell ⟨g6, k, none⟩ (.int .i64 j)).setCell ⟨g6, j, none⟩ (.int .i64 k)).drew) := by
  have hb : n₀ ≤ g6 := row_base h6 rfl
  have a := World.ownsRow.stored h6 k (.int .i64 j)
  have b := World.ownsRow.stored a.1 j (.int .i64 k)
  have ne : (Value.slice (some ⟨g7, 0, none⟩) n1 c7).ownBlock = none ∨ (Value.slice (some ⟨g7, 0, none⟩) n1 c7).ownBlock ≠ some g6 :=
    .inr (by simp only [Value.ownBlock, ne_eq, Option.some.injEq]; exact fun e => hne e.symm)
  have c := (h7.kept a.2 ne).kept b.2 ne
  refine ⟨?_, ?_, ((HB.setCell (p := ⟨g6, k, none⟩) hb _).setCell (p := ⟨g6, j, none⟩) hb _).drew⟩
  · have e1 : ((ps.set k (j : Int)).set j (k : Int)).length = K1 := by simp [hK]
    have e2 : intCells ((ps.set k (j : Int)).set j (k : Int)) = ((intCells ps).set k (.int .i64 j)).set j (.int .i64 k) := by
      unfold intCells
      rw [List.map_set, List.map_set]
    rw [e1, e2]
    exact b.1
  · have e1 : (natI os).length = p := by unfold natI; simp [hp]
    rw [e1]
    rw [hn] at c
    have e2 : intCells (natI (os ++ [j])) = intCells (natI os) ++ [.int .i64 j] := by unfold intCells natI; simp
    rw [e2] at c
    exact ownsRow_pop (by unfold intCells; simp [e1]) c

theorem intIn_nil (W : World) (B : Nat) : IntIn W B (.slice none 0 0) [] := ⟨none, 0, rfl, fun i x h => by simp at h⟩

set_option maxRecDepth 100000 in
set_option maxHeartbeats 3000000 in
theorem refPairs_any (v : Value) (l : List Tk) (w : World) (hl : l.length ≤ 1000000) (ht : ∀ x ∈ l, x.text.size ≤ 140737488355328) (hv : TkIn w w.heap.size v l) :
    Calls Tryd.prog 31 #[v] w fun e w' => ∃ v', e = .returned (.tuple #[v', .int .i64 (pairsRes l).2.1, .int .i64 (pairsRes l).2.2]) ∧ Below w.heap.size w w' ∧ IntIn w' w'.heap.size v' (pairsRes l).1 := by
  have C64 := Lib.hid (tokensError_any v l w (by omega) ht hv)
  obtain ⟨A, c, rfl, hA⟩ := hv
  have HA := Lib.hid hA
  clear ht hA
  by_cases he : listErr l = 0
  · have hr := (listErr_ok' he)
    have HRT := Lib.hid hr
    have HRES := Lib.hid (show pairsRes l = prsGo l l.length 0 [] [] by unfold pairsRes; rw [if_neg (by simp [he])])
    rw [he] at C64
    clear he hr
    obtain ⟨i0, hi, hz0, hz1, hz2⟩ := info_parts info3
    go_enter Tryd.func31, Tryd.ntmps31
    go_wp2_with (go_at_call 64; refine C64.out.mono ?_; rintro e w1 ⟨rfl, hb1⟩; have HB1 := Lib.hid hb1; clear hb1)
    go_loopw [6, 7, 8] (fun o op i wr => ∃ (k : Nat) (ps : List Int) (os : List Nat), k ≤ l.length ∧ i = .int .i64 k ∧ ps.length = k ∧ os.length ≤ k ∧ Hid (∀ j ∈ os, j < k) ∧ Hid (pairsRes l = prsGo l (l.length - k) k ps os) ∧
      wr.ownsRow w.heap.size 3 1 o ps.length (intCells ps) ∧ wr.ownsRow w.heap.size 3 1 op (natI os).length (intCells (natI os)) ∧ Hid (Apart o op) ∧ Hid (Below w.heap.size w wr)) (fun _ _ i _ => l.length - (intOf i).toNat)
    case atStart => exact ⟨0, [], [], by omega, rfl, rfl, by simp, Lib.hid (by simp), Lib.hid HRES.out, World.ownsRow_nil _ _ _ _, World.ownsRow_nil _ _ _ _, Lib.hid (Apart.nil _), HB1⟩
    case round =>
      obtain ⟨k, ps, os, hk, rfl, hps, hos, HJ, HP, hrow, hnrow, HAP, HB⟩ := hrel
      have hsz := HB.out.size
      have hnl : (natI os).length = os.length := by unfold natI; simp
      by_cases hlt : k < l.length
      · obtain ⟨x, hx⟩ : ∃ x, l[k]? = some x := ⟨_, List.getElem?_eq_getElem hlt⟩
        obtain ⟨b, off, hAe, hB, g1, g2, g3⟩ := HA.out k x hx
        subst hAe
        have hxr := HRT.out x (List.mem_of_getElem? hx)
        have HX := Lib.hid hx
        have HF := Lib.hid (show l.length - k = (l.length - (k + 1)) + 1 by omega)
        have C67 := Lib.hid (closing_any x)
        rw [clsP_T hxr] at C67
        have hop := clsT_open x.text
        have HG := Lib.hid (fun (w' : World) (hb : Below w.heap.size w w') => And.intro ((hb.cell (p := ⟨b, _, none⟩) hB).trans g1) (And.intro ((hb.cell (p := ⟨b, _, none⟩) hB).trans g2) ((hb.cell (p := ⟨b, _, none⟩) hB).trans g3)))
        clear g1 g2 g3 hx hxr
        cases hopn : isOpn x.text
        · rw [hopn] at hop
          cases hm : mateOf x.text with
          | none =>
            have HST := Lib.hid (show pairsRes l = prsGo l (l.length - (k + 1)) (k + 1) (ps ++ [-1]) os by rw [HP.out, HF.out, go_some (step_other HX.out hopn hm)])
            obtain ⟨q1, q2⟩ := mate_none.1 hm
            generalize clsT x.text = c6 at C67 hop
            clear hopn hm
            go_wp2_with (first
              | (at_builtin; refine wpList_append_own_at _ rfl _ _ 41 rfl w.heap.size 3 i0 _ 1 8 Tryd.underlying41 hi hz0 hz1 hz2 rfl (by decide) _ _ _ rfl (hrow.alloc _) ⟨wr.heap.size, 0, none⟩ 1 1 [.int .i64 (-1)] rfl rfl (cells_new _ _ _) (by simp [Value.oneCell']) (by unfold maxLen; omega) (by omega) (by simp; omega) ?_; intro v3 w3 hown3 hgrow3 _ hat3; have HB3 := Lib.hid ((HB.out.alloc hsz (.cells #[.int .i64 (-1)] 3)).grown hgrow3 (by simp; omega) (fun k e => row_base hrow e)); obtain ⟨d1, d2, d3⟩ := HG.out _ HB3.out; have HR3 := Lib.hid (ints_app hown3); have HN3 := Lib.hid ((hnrow.alloc (.cells #[.int .i64 (-1)] 3)).kept hgrow3 HAP.out.symm.fst); have HA3 := Lib.hid (HAP.out.app hat3 (fun g hg => Nat.lt_of_lt_of_le (row_lt hnrow hg) (by simp))); clear hrow hnrow hown3 hgrow3 hat3)
              | (go_at_call 67; refine (C67.out _).mono ?_; rintro e w4 ⟨rfl, hb4⟩; have HB4 := Lib.hid (HB3.out.trans (hb4.mono HB3.out.size)); have hsz4 := HB4.out.size; obtain ⟨d1, d2, d3⟩ := HG.out _ HB4.out; have hrow4 := row_call HR3.out hb4; have hnrow4 := row_call HN3.out hb4; clear hb4 HR3 HN3 C67))
            go_roundw
            case rel => exact ⟨k + 1, ps ++ [-1], os, by omega, by go_num, by simp; omega, by omega, Lib.hid (fun j hj => Nat.lt_succ_of_lt (HJ.out j hj)), HST, hrow4, hnrow4, HA3, HB4⟩
            case measure => simp [intOf]; omega
          | some m =>
            have hor : ((x.text.toList == [41]) = true) ∨ ((x.text.toList == [41]) = false ∧ (x.text.toList == [125]) = true) := mate_or hm
            rcases nil_or_snoc os with rfl | ⟨os', j, rfl⟩
            · have HST := Lib.hid (show pairsRes l = ([], (k : Int), 4) by rw [HP.out, HF.out, go_none (step_none HX.out hopn hm)])
              generalize clsT x.text = c6 at C67 hop
              clear hopn hm
              obtain ⟨A7, c7, rfl⟩ := slice_of hnrow
              rcases hor with q1 | ⟨q1, q2⟩
              all_goals
                go_wp2_with (first
                  | (at_builtin; refine wpList_append_own_at _ rfl _ _ 41 rfl w.heap.size 3 i0 _ 1 8 Tryd.underlying41 hi hz0 hz1 hz2 rfl (by decide) _ _ _ rfl (hrow.alloc _) ⟨wr.heap.size, 0, none⟩ 1 1 [.int .i64 (-1)] rfl rfl (cells_new _ _ _) (by simp [Value.oneCell']) (by unfold maxLen; omega) (by omega) (by simp; omega) ?_; intro v3 w3 hown3 hgrow3 _ hat3; have HB3 := Lib.hid ((HB.out.alloc hsz (.cells #[.int .i64 (-1)] 3)).grown hgrow3 (by simp; omega) (fun k e => row_base hrow e)); obtain ⟨d1, d2, d3⟩ := HG.out _ HB3.out; have HR3 := Lib.hid (ints_app hown3); have HN3 := Lib.hid ((hnrow.alloc (.cells #[.int .i64 (-1)] 3)).kept hgrow3 HAP.out.symm.fst); have HA3 := Lib.hid (HAP.out.app hat3 (fun g hg => Nat.lt_of_lt_of_le (row_lt hnrow hg) (by simp))); clear hrow hnrow hown3 hgrow3 hat3)
                  | (go_at_call 67; refine (C67.out _).mono ?_; rintro e w4 ⟨rfl, hb4⟩; have HB4 := Lib.hid (HB3.out.trans (hb4.mono HB3.out.size)); have hsz4 := HB4.out.size; obtain ⟨d1, d2, d3⟩ := HG.out _ HB4.out; have hrow4 := row_call HR3.out hb4; have hnrow4 := row_call HN3.out hb4; clear hb4 HR3 HN3 C67))
                go_quiet (fail)
                go_wp2_with fail
                go_ret3
                rw [HST.out]
                exact ⟨_, rfl, below_drewN HB4.out _, intIn_nil _ _⟩
            · have hjk := HJ.out j (by simp)
              obtain ⟨y, hy⟩ : ∃ y, l[j]? = some y := ⟨_, List.getElem?_eq_getElem (by omega)⟩
              obtain ⟨b', off', hAe, hB', s1, s2, s3⟩ := HA.out j y hy
              cases hAe
              have hyr := HRT.out y (List.mem_of_getElem? hy)
              have C67y := Lib.hid (closing_any y)
              rw [clsP_T hyr] at C67y
              have HGy := Lib.hid (fun (w' : World) (hb : Below w.heap.size w w') => And.intro ((hb.cell (p := ⟨b, _, none⟩) hB).trans s1) (And.intro ((hb.cell (p := ⟨b, _, none⟩) hB).trans s2) ((hb.cell (p := ⟨b, _, none⟩) hB).trans s3)))
              have hstep := step_close (ps := ps) (os := os') HX.out hopn hm hy
              have hmc := mate_cls (y := y.text) hm
              have hlen' : (natI (os' ++ [j])).length = os'.length + 1 := by unfold natI; simp
              rw [hlen'] at hnrow hnl
              have hlast := nat_last os' j
              obtain ⟨p, hp⟩ : ∃ p, p = os'.length := ⟨_, rfl⟩
              obtain ⟨n1, hn1⟩ : ∃ n1, n1 = p + 1 := ⟨_, rfl⟩
              have HP1 := Lib.hid hp
              have HN1 := Lib.hid hn1
              rw [← hp, ← hn1] at hnrow hnl
              rw [← hp] at hlast
              obtain ⟨g7, c7, rfl⟩ : ∃ g cap, u7 = .slice (some ⟨g, 0, none⟩) n1 cap := by
                rw [hn1] at hnrow ⊢
                exact ownsRow_succ hnrow
              have wl : IntKind.i64.wrap ((n1 : Int) - 1) = p := by rw [IntKind.wrap_i64]; omega
              have hn1le : n1 ≤ k := by rw [← hnl] at *; simp at hos; omega
              have tz : ((n1 : Int) == 0) = false := by simp; omega
              have hpc : p < n1 := by omega
              generalize clsT x.text = c6 at C67 hop
              clear hopn hm s1 s2 s3 hyr hp hn1 hlen' hy hnl
              rcases hor with q1 | ⟨q1, q2⟩
              all_goals
                go_wp2_with (first
                  | (at_builtin; refine wpList_append_own_at _ rfl _ _ 41 rfl w.heap.size 3 i0 _ 1 8 Tryd.underlying41 hi hz0 hz1 hz2 rfl (by decide) _ _ _ rfl (hrow.alloc _) ⟨wr.heap.size, 0, none⟩ 1 1 [.int .i64 (-1)] rfl rfl (cells_new _ _ _) (by simp [Value.oneCell']) (by unfold maxLen; omega) (by omega) (by simp; omega) ?_; intro v3 w3 hown3 hgrow3 _ hat3; have HB3 := Lib.hid ((HB.out.alloc hsz (.cells #[.int .i64 (-1)] 3)).grown hgrow3 (by simp; omega) (fun k e => row_base hrow e)); obtain ⟨d1, d2, d3⟩ := HG.out _ HB3.out; have HR3 := Lib.hid (ints_app hown3); have HN3 := Lib.hid ((hnrow.alloc (.cells #[.int .i64 (-1)] 3)).kept hgrow3 HAP.out.symm.fst); have HA3 := Lib.hid (HAP.out.app hat3 (fun g hg => Nat.lt_of_lt_of_le (row_lt hnrow hg) (by simp))); clear hrow hnrow hown3 hgrow3 hat3)
                  | (go_at_call 67; refine (C67.out _).mono ?_; rintro e w4 ⟨rfl, hb4⟩; have HB4 := Lib.hid (HB3.out.trans (hb4.mono HB3.out.size)); have hsz4 := HB4.out.size; obtain ⟨d1, d2, d3⟩ := HG.out _ HB4.out; have hrow4 := row_call HR3.out hb4; have hnrow4 := row_call HN3.out hb4; clear hb4 HR3 HN3 C67))
                have dtop := (hnrow4.cellAt p (by omega)).trans hlast
                obtain ⟨f1, f2, f3⟩ := HGy.out _ HB4.out
                clear d1 d3
                have HL7 : Hid (g7 < w4.heap.size) := Lib.hid (row_lt hnrow4 rfl)
                have HLb : Hid (b < w4.heap.size) := Lib.hid (Nat.lt_of_lt_of_le hB hsz4)
                have hpI : (p : Int) < (n1 : Int) := by omega
                have hjI : (j : Int) < (l.length : Int) := by omega
                have hjN : j < l.length := by omega
                have hkI : (k : Int) < (l.length : Int) := by omega
                go_region_held3 (fun w' => w'.cell? ⟨g7, p, none⟩ = some (.int .i64 j) ∧ w'.cell? ⟨b, off + j * 3, none⟩ = some (.int .u8 y.kind) ∧ w'.cell? ⟨b, off + j * 3 + 1, none⟩ = some (.string y.text) ∧ w'.cell? ⟨b, off + j * 3 + 2, none⟩ = some (.int .i64 y.at_) ∧ w'.cell? ⟨b, off + k * 3 + 1, none⟩ = some (.string x.text))
                  (first
                    | go_keep
                    | (go_split_ands
                       refine ⟨?_, ?_, ?_, ?_, ?_⟩
                       · (rw [hb5.cell HL7.out]; assumption)
                       · (rw [hb5.cell HLb.out]; assumption)
                       · (rw [hb5.cell HLb.out]; assumption)
                       · (rw [hb5.cell HLb.out]; assumption)
                       · (rw [hb5.cell HLb.out]; assumption)))
                  ((go_at_call 67; refine (C67y.out _).mono ?_; rintro e w5 ⟨rfl, hb5⟩))
                rename_i hheld
                obtain ⟨u1, u2', u3', u4', u5'⟩ := hheld
                have HB5 := Lib.hid (HB4.out.drew.trans (hb5.mono HB4.out.drew.size))
                have hrow5 := row_call (show w4.drew.ownsRow _ _ _ _ _ _ from hrow4) hb5
                have hnrow5 := row_call (show w4.drew.ownsRow _ _ _ _ _ _ from hnrow4) hb5
                clear hb5 hrow4 hnrow4 dtop f1 f2 f3 d2 HL7 HLb u2' u3' u4'
                by_cases hym : y.text = m
                · have qe : ((clsT y.text).toList == x.text.toList) = true := by rw [toList_beq]; exact decide_eq_true (hmc.2 hym)
                  have qn : (!((clsT y.text).toList == x.text.toList)) = false := by rw [qe]; rfl
                  rw [if_pos hym] at hstep
                  have HST := Lib.hid (show pairsRes l = prsGo l (l.length - (k + 1)) (k + 1) (((ps ++ [-1]).set k j).set j k) os' by rw [HP.out, HF.out, go_some hstep])
                  clear hstep hym hmc
                  have hsl : ∀ w', (Instr.slice 41 (.slice (some ⟨g7, 0, none⟩) n1 c7) none (some (.int .i64 p)) none).run Tryd.prog w' = .ok (.slice (some ⟨g7, 0, none⟩) p c7) w' := fun w' => slice41_h w' (by have := own_room hnrow5; omega)
                  obtain ⟨K1, hK1⟩ : ∃ K1, K1 = k + 1 := ⟨_, rfl⟩
                  have HK1 := Lib.hid (show (ps ++ [-1]).length = K1 by simp [hps, hK1])
                  rw [HK1.out] at hrow5
                  obtain ⟨g6, c6', rfl⟩ : ∃ g cap, v3 = .slice (some ⟨g, 0, none⟩) K1 cap := by
                    rw [hK1] at hrow5 ⊢
                    exact ownsRow_succ hrow5
                  have hg67 : g6 ≠ g7 := by
                    rcases HA3.out with h | h | h
                    · simp [Value.ownBlock] at h
                    · simp [Value.ownBlock] at h
                    · simpa [Value.ownBlock] using h
                  have HCS := Lib.hid (close_step (k := k) HB5.out hrow5 hnrow5 HK1.out HP1.out HN1.out hg67)
                  have HAp : Hid (Apart (.slice (some ⟨g6, 0, none⟩) K1 c6') (.slice (some ⟨g7, 0, none⟩) p c7)) := Lib.hid (.inr (.inr (by simpa [Value.ownBlock] using hg67)))
                  have hlk : (intCells (ps ++ [-1])).length = k + 1 := by unfold intCells; simp [hps]
                  have st1 := (hrow5.cellAt k (by omega)).trans (List.getElem?_eq_getElem (by omega))
                  have st2 := (hrow5.cellAt j (by omega)).trans (List.getElem?_eq_getElem (by omega))
                  generalize (intCells (ps ++ [-1]))[k]'_ = z1 at st1
                  generalize (intCells (ps ++ [-1]))[j]'_ = z2 at st2
                  have fz1 := hrow5.frozenAt k
                  have fz2 := hrow5.frozenAt j
                  have st3 : (w5.drew.setCell ⟨g6, k, none⟩ (.int .i64 j)).cell? ⟨g6, j, none⟩ = some z2 := (World.cell?_setCell_other _ _ _ _ (by intro e; simp only [Addr.mk.injEq] at e; omega)).trans st2
                  have hkK : (k : Int) < (K1 : Int) := by omega
                  have hjK : (j : Int) < (K1 : Int) := by omega
                  have hjkn : j ≠ k := by omega
                  have hn7 : IntKind.i64.wrap ((n1 : Int) - 1) = p := wl
                  have HHK := Lib.hid hK1
                  clear hK1 hlk
                  go_wp2_with fail
                  · rename_i hh
                    exact absurd (hh.symm.trans qn) (by decide)
                  go_region
                  go_wp2_with fail
                  go_roundw
                  case rel => exact ⟨k + 1, ((ps ++ [-1]).set k j).set j k, os', by omega, by go_num, by simp; omega, by simp at hos; omega, Lib.hid (fun i hi => Nat.lt_succ_of_lt (HJ.out i (by simp [hi]))), HST, HCS.out.1, HCS.out.2.1, HAp, HCS.out.2.2⟩
                  case measure => simp [intOf]; omega
                · have qe : ((clsT y.text).toList == x.text.toList) = false := by rw [toList_beq]; exact decide_eq_false (fun h => hym (hmc.1 h))
                  have qn : (!((clsT y.text).toList == x.text.toList)) = true := by rw [qe]; rfl
                  rw [if_neg hym] at hstep
                  have HST := Lib.hid (show pairsRes l = ([], (k : Int), 4) by rw [HP.out, HF.out, go_none hstep])
                  clear hstep hym hmc
                  go_wp2_with fail
                  · go_ret3
                    rw [HST.out]
                    exact ⟨_, rfl, HB5.out, intIn_nil _ _⟩
                  · rename_i hh
                    exact absurd (hh.symm.trans qn) (by decide)
        · rw [hopn] at hop
          have HST := Lib.hid (show pairsRes l = prsGo l (l.length - (k + 1)) (k + 1) (ps ++ [-1]) (os ++ [k]) by rw [HP.out, HF.out, go_some (step_open HX.out hopn)])
          generalize clsT x.text = c6 at C67 hop
          clear hopn
          go_wp2_with (first
            | (at_builtin; refine wpList_append_own_at _ rfl _ _ 41 rfl w.heap.size 3 i0 _ 1 8 Tryd.underlying41 hi hz0 hz1 hz2 rfl (by decide) _ _ _ rfl (hrow.alloc _) ⟨wr.heap.size, 0, none⟩ 1 1 [.int .i64 (-1)] rfl rfl (cells_new _ _ _) (by simp [Value.oneCell']) (by unfold maxLen; omega) (by omega) (by simp; omega) ?_; intro v3 w3 hown3 hgrow3 _ hat3; have HB3 := Lib.hid ((HB.out.alloc hsz (.cells #[.int .i64 (-1)] 3)).grown hgrow3 (by simp; omega) (fun k e => row_base hrow e)); obtain ⟨d1, d2, d3⟩ := HG.out _ HB3.out; have HR3 := Lib.hid (ints_app hown3); have HN3 := Lib.hid ((hnrow.alloc (.cells #[.int .i64 (-1)] 3)).kept hgrow3 HAP.out.symm.fst); have HA3 := Lib.hid (HAP.out.app hat3 (fun g hg => Nat.lt_of_lt_of_le (row_lt hnrow hg) (by simp))); clear hrow hnrow hown3 hgrow3 hat3)
            | (go_at_call 67; refine (C67.out _).mono ?_; rintro e w4 ⟨rfl, hb4⟩; have HB4 := Lib.hid (HB3.out.trans (hb4.mono HB3.out.size)); have hsz4 := HB4.out.size; obtain ⟨d1, d2, d3⟩ := HG.out _ HB4.out; have hrow4 := row_call HR3.out hb4; have hnrow4 := row_call HN3.out hb4; clear hb4 HR3 HN3 C67)
            | (at_builtin; refine wpList_append_own_at _ rfl _ _ 41 rfl w.heap.size 3 i0 _ 1 8 Tryd.underlying41 hi hz0 hz1 hz2 rfl (by decide) _ _ _ rfl (hnrow4.alloc _) ⟨w4.heap.size, 0, none⟩ 1 1 [.int .i64 k] rfl rfl (cells_new _ _ _) (by simp [Value.oneCell']) (by unfold maxLen; omega) (by omega) (by simp; omega) ?_; intro v5 w5 hown5 hgrow5 _ hat5; have HB5 := Lib.hid ((HB4.out.alloc hsz4 (.cells #[.int .i64 k] 3)).grown hgrow5 (by simp; omega) (fun k e => row_base hnrow4 e)); have HN5 := Lib.hid (nat_app hown5); have HR5 := Lib.hid ((hrow4.alloc (.cells #[.int .i64 k] 3)).kept hgrow5 HA3.out.fst); have HA5 := Lib.hid ((HA3.out.symm.app hat5 (fun g hg => Nat.lt_of_lt_of_le (row_lt hrow4 hg) (by simp))).symm); clear hrow4 hnrow4 hown5 hgrow5 hat5))
          go_roundw
          case rel => exact ⟨k + 1, ps ++ [-1], os ++ [k], by omega, by go_num, by simp; omega, by simp; omega, Lib.hid (mem_step HJ.out), HST, HR5.out, HN5.out, HA5, HB5⟩
          case measure => simp [intOf]; omega
      · have hkl : k = l.length := by omega
        have hP := HP.out
        rw [show l.length - k = 0 by omega] at hP
        cases os with
        | nil =>
          have HR := Lib.hid (show pairsRes l = (ps, 0, 0) from hP)
          clear hP
          obtain ⟨A7, c7, rfl⟩ := slice_of hnrow
          have HI := Lib.hid (intIn_of_own hrow)
          obtain ⟨A6, c6, rfl⟩ := slice_of hrow
          go_wp2_with fail
          go_ret3
          rw [HR.out]
          exact ⟨_, rfl, HB.out, HI.out⟩
        | cons j os =>
          have HR := Lib.hid (show pairsRes l = ([], (j : Int), 4) from hP)
          clear hP
          have hn2 : wr.ownsRow w.heap.size 3 1 u7 (os.length + 1) (intCells (natI (j :: os))) := by
            have : (natI (j :: os)).length = os.length + 1 := by unfold natI; simp
            rw [← this]
            exact hnrow
          obtain ⟨g7, c7, rfl⟩ := ownsRow_succ hn2
          have d0 := hn2.cellAt 0 (by omega)
          have d0' : wr.cell? ⟨g7, 0, none⟩ = some (.int .i64 j) := d0
          clear d0 hnrow
          go_wp2_with fail
          go_quiet (fail)
          go_wp2_with fail
          go_ret3
          rw [HR.out]
          exact ⟨_, rfl, below_drewN HB.out _, intIn_nil _ _⟩
  · have HR := Lib.hid (show pairsRes l = ([], 0, listErr l) by unfold pairsRes; rw [if_pos he])
    have heb : (listErr l != 0) = true := by simpa using he
    generalize listErr l = e0 at C64 HR heb
    clear he
    go_enter Tryd.func31, Tryd.ntmps31
    go_wp2_with (go_at_call 64; refine C64.out.mono ?_; rintro e w1 ⟨rfl, hb1⟩; have HB1 := Lib.hid hb1; clear hb1)
    go_ret3
    rw [HR.out]
    exact ⟨_, rfl, HB1.out, intIn_nil _ _⟩
end Go.Proofs.YtjadjmkbjolklaaDoor
