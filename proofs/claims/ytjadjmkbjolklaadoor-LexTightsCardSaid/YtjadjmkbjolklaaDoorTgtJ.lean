/- Tokens that are copied, tokens that are the same but for places, and LexShorter. -/
import Derived.Test.YtjadjmkbjolklaaDoorTgtI
import Derived.Test.YtjadjmkbjolklaaDoorTgtE
import Derived.Test.YtjadjmkbjolklaaDoorSplI
import Derived.Test.YtjadjmkbjolklaaDoorKeep
namespace Go.Proofs.YtjadjmkbjolklaaDoor
open Go.RowKit

theorem tkCells_one (l : List Tk) : ∀ u ∈ tkCells l, u.oneCell' = true := by
  intro u hu
  obtain ⟨x, _, hx⟩ := List.mem_flatMap.1 hu
  simp only [Tk.cells3, List.mem_cons, List.not_mem_nil, or_false] at hx
  rcases hx with rfl | rfl | rfl <;> rfl

theorem tkIn_cells {W : World} {B : Nat} {ad : Addr} {n c : Nat} {l : List Tk} (h : TkIn W B (.slice (some ad) n c) l) : ∀ j u, (tkCells l)[j]? = some u → W.cell? (ad.add j) = some u := by
  obtain ⟨A', c', hv, hA⟩ := h
  cases hv
  intro j u hj
  have hlen := tkCells_length l
  have hj3 : j < l.length * 3 := by rw [← hlen]; exact (List.getElem?_eq_some_iff.1 hj).1
  have hi : l[j / 3]? = some (l[j / 3]'(by omega)) := List.getElem?_eq_getElem _
  have hg := cells_get Tk.cells3 3 (fun _ => rfl) l (j / 3) _ hi
  obtain ⟨b, off, e, _, g0, g1, g2⟩ := hA (j / 3) _ hi
  cases e
  have e : Addr.add ⟨b, off, none⟩ j = ⟨b, off + j, none⟩ := by unfold Addr.add; split <;> simp_all
  rw [e]
  have hjj : j = j / 3 * 3 + j % 3 := by omega
  have hr : (tkCells l)[j / 3 * 3 + j % 3]? = some u := by rw [← hjj]; exact hj
  have h3 : j % 3 = 0 ∨ j % 3 = 1 ∨ j % 3 = 2 := by omega
  rcases h3 with h3 | h3 | h3
  · rw [h3] at hr
    have := (hg 0 _ rfl).symm.trans hr
    cases this
    rw [← g0]
    congr 2
    omega
  · rw [h3] at hr
    have := (hg 1 _ rfl).symm.trans hr
    cases this
    rw [← g1]
    congr 2
    omega
  · rw [h3] at hr
    have := (hg 2 _ rfl).symm.trans hr
    cases this
    rw [← g2]
    congr 2
    omega

theorem tkIn_own0 {W : World} {n₀ : Nat} {v : Value} {l : List Tk} (h : W.ownsRow n₀ 63 3 v (0 + l.length) ([] ++ tkCells l)) : TkIn W W.heap.size v l := by
  rw [Nat.zero_add, List.nil_append] at h
  exact tkIn_of_own h

theorem tkIn_none {W : World} {B n c : Nat} {l : List Tk} (h : TkIn W B (.slice none n c) l) : l = [] := by
  obtain ⟨A, c', hv, hA⟩ := h
  cases hv
  cases l with
  | nil => rfl
  | cons x r =>
    obtain ⟨b, off, e, _⟩ := hA 0 x rfl
    cases e

theorem run_append_no_tok (w : World) (c : Nat) (ty : TypeId) : (Builtin.append_ #[23, 23] ty #[.slice none 0 0, .slice none 0 c]).run Tryd.prog w = .ok (.slice none 0 0) w := by
  obtain ⟨i0, hi, _⟩ := info_parts info63
  simp [Builtin.append_, run_underlying Tryd.underlying23, sizeOf, typeInfo, hi, Builtin.lenOf, Builtin.firstCells]

/-- What append to nothing leaves of tokens. -/
theorem wpList_append_tok {w : World} {ops : Array Oper} {rest : List Oper} {o : Oper} {a : Act} {Q : Exit → Act → World → Prop} (hgd : o.guard = none) (s x : Operand)
    (ho : o.op = .call { callee := .builtin .append, args := #[s, x], argTypes := #[23, 23] }) (B : Nat) (A : Option Addr) (n c : Nat) (l : List Tk) (hs : a.eval s = .slice none 0 0) (hx : a.eval x = .slice A n c)
    (hv : TkIn w B (.slice A n c) l) (hl : l.length * 32 ≤ 140737488355328)
    (h : ∀ v' w', TkIn w' w'.heap.size v' l → Below w.heap.size w w' → wpList Tryd.prog ops Q rest (a.put o.dst v') w') : wpList Tryd.prog ops Q (o :: rest) a w := by
  obtain ⟨i0, hi, hz0, hz1, hz2⟩ := info_parts info63
  cases A with
  | none =>
    have hl0 := tkIn_none hv
    subst hl0
    obtain ⟨A', c', e, _⟩ := hv
    cases e
    refine wpList_plain hgd fun K hK => ?_
    have hrun := run_append_no_tok w c o.type
    unfold Oper.wp
    simp only [List.length_nil] at hx
    simp [execOp, ho, resolve, invoke, builtin, hs, hx, hrun, Result.andThen]
    exact hK _ _ (h _ _ ⟨none, 0, rfl, fun i x h => by simp at h⟩ (Below.refl _ _))
  | some ad =>
    have hn : n = l.length := by
      obtain ⟨A', c', e, _⟩ := hv
      cases e
      rfl
    subst hn
    exact wpList_append_own w hgd s x 23 ho w.heap.size 63 i0 _ 3 32 Tryd.underlying23 hi hz0 hz1 hz2 rfl (by decide) _ 0 [] hs (World.ownsRow_nil _ _ _ _) ad l.length c (tkCells l) hx (tkCells_length l) (tkIn_cells hv) (tkCells_one l) (by unfold maxLen; omega) (by omega) (Nat.le_refl _)
      (fun v' w' hown hgrow _ => h v' w' (tkIn_own0 hown) ((Below.refl _ _).grown hgrow (Nat.le_refl _) (fun k e => by cases e)))

theorem pcOrd_text {n : Nat} : ∀ {f : Nat} {l : List Piece}, pcOrd n f l → ∀ x ∈ l, x.text.size ≤ n
  | _, [], _, x, h => by cases h
  | _, y :: r, ho, x, h => by
    rcases List.mem_cons.1 h with rfl | h
    · have := ho.2.1
      omega
    · exact pcOrd_text ho.2.2 x h

/-- Are tokens the same but for places? -/
def kt (x : Tk) : Int × ByteArray := (x.kind, x.text)
def sameK (l m : List Tk) : Bool := decide (l.map kt = m.map kt)

theorem sameB_K (l : List Tk) (m : List Piece) : sameB l m = sameK l (m.map Piece.tk) := by
  unfold sameB sameK
  rw [List.map_map]
  rfl

theorem sameK_step {l m : List Tk} {k : Nat} {x y : Tk} (hx : l[k]? = some x) (hy : m[k]? = some y) : decide ((l.drop k).map kt = (m.drop k).map kt) = (decide (x.kind = y.kind) && (decide (x.text = y.text) && decide ((l.drop (k + 1)).map kt = (m.drop (k + 1)).map kt))) := by
  obtain ⟨h1, rfl⟩ := List.getElem?_eq_some_iff.1 hx
  obtain ⟨h2, rfl⟩ := List.getElem?_eq_some_iff.1 hy
  rw [List.drop_eq_getElem_cons h1, List.drop_eq_getElem_cons h2, List.map_cons, List.map_cons]
  simp [kt, Bool.and_assoc]

set_option maxRecDepth 100000 in
set_option maxHeartbeats 1000000 in
theorem sameBut_any (v v' : Value) (l m : List Tk) (w : World) (hl : l.length ≤ 140737488355328) (_ : m.length ≤ 140737488355328) (hv : TkIn w w.heap.size v l) (hv' : TkIn w w.heap.size v' m) :
    Calls Tryd.prog 47 #[v, v'] w fun e w' => e = .returned (.bool (sameK l m)) ∧ Below w.heap.size w w' := by
  obtain ⟨A, c, rfl, hA⟩ := hv
  obtain ⟨A', c', rfl, hA'⟩ := hv'
  have HA := Lib.hid hA
  have HA' := Lib.hid hA'
  clear hA hA'
  by_cases hlm : l.length = m.length
  · go_enter Tryd.func47, Tryd.ntmps47
    go_wp2
    go_loopw [5] (fun i wr => ∃ (k : Nat), k ≤ l.length ∧ i = .int .i64 k ∧ Hid (sameK l m = decide ((l.drop k).map kt = (m.drop k).map kt)) ∧ Hid (Below w.heap.size w wr)) (fun i _ => l.length - (intOf i).toNat)
    case atStart => exact ⟨0, by omega, rfl, Lib.hid rfl, Lib.hid (Below.refl _ _)⟩
    case round =>
      obtain ⟨k, hk, rfl, HK, HB⟩ := hrel
      by_cases hlt : k < l.length
      · have hlt' : k < m.length := by omega
        obtain ⟨x, hx⟩ : ∃ x, l[k]? = some x := ⟨_, List.getElem?_eq_getElem hlt⟩
        obtain ⟨y, hy⟩ : ∃ y, m[k]? = some y := ⟨_, List.getElem?_eq_getElem hlt'⟩
        obtain ⟨b, off, rfl, hB, g1, g2, g3⟩ := HA.out k x hx
        obtain ⟨b', off', rfl, hB', q1, q2, q3⟩ := HA'.out k y hy
        have d1 := (HB.out.cell (p := ⟨b, _, none⟩) hB).trans g1
        have d2 := (HB.out.cell (p := ⟨b, _, none⟩) hB).trans g2
        have e1 := (HB.out.cell (p := ⟨b', _, none⟩) hB').trans q1
        have e2 := (HB.out.cell (p := ⟨b', _, none⟩) hB').trans q2
        have HS := Lib.hid (sameK_step hx hy)
        clear g1 g2 g3 q1 q2 q3 hx hy
        by_cases hkd : x.kind = y.kind
        · have t1 : (x.kind != y.kind) = false := by simpa using hkd
          by_cases htx : x.text = y.text
          · have t2 : (x.text.toList == y.text.toList) = true := by rw [toList_beq]; exact decide_eq_true htx
            have HS2 := Lib.hid (show sameK l m = decide ((l.drop (k + 1)).map kt = (m.drop (k + 1)).map kt) by rw [HK.out, HS.out, decide_eq_true hkd, decide_eq_true htx, Bool.true_and, Bool.true_and])
            clear hkd htx
            go_wp2_with fail
            go_quiet (fail)
            go_wp2_with fail
            go_roundw
            case rel => exact ⟨k + 1, by omega, by go_num, HS2, Lib.hid (below_drewN HB.out _)⟩
            case measure => simp [intOf]; omega
          · have t2 : (x.text.toList == y.text.toList) = false := by rw [toList_beq]; exact decide_eq_false htx
            have HS2 := Lib.hid (show sameK l m = false by rw [HK.out, HS.out, decide_eq_false htx, Bool.false_and, Bool.and_false])
            clear hkd htx
            go_wp2_with fail
            go_quiet (fail)
            go_wp2_with fail
            go_ret
            exact ⟨ret_bool HS2.out.symm, below_drewN HB.out _⟩
        · have t1 : (x.kind != y.kind) = true := by simpa using hkd
          have HS2 := Lib.hid (show sameK l m = false by rw [HK.out, HS.out, decide_eq_false hkd, Bool.false_and])
          clear hkd
          go_wp2_with fail
          go_quiet (fail)
          go_wp2_with fail
          go_ret
          exact ⟨ret_bool HS2.out.symm, below_drewN HB.out _⟩
      · have HE := Lib.hid (show sameK l m = true by rw [HK.out, List.drop_eq_nil_of_le (by omega), List.drop_eq_nil_of_le (by omega)]; rfl)
        go_wp2
        go_ret
        exact ⟨ret_bool HE.out.symm, HB.out⟩
  · have HE := Lib.hid (show sameK l m = false by
      unfold sameK
      refine decide_eq_false fun e => hlm ?_
      have := congrArg List.length e
      simpa using this)
    go_enter Tryd.func47, Tryd.ntmps47
    go_wp2
    go_ret
    exact ⟨ret_bool HE.out.symm, Below.refl _ _⟩

set_option maxRecDepth 100000 in
set_option maxHeartbeats 2000000 in
theorem shorter_any (s : ByteArray) (w : World) (hs : s.size ≤ 140737488355328) (hn : NumVars w) :
    Calls Tryd.prog 11 #[.string s] w fun e w' => e = .returned (.bool true) ∧ Below w.heap.size w w' := by
  have HN := Lib.hid hn
  clear hn
  by_cases h30 : 3000 < s.size
  · go_enter Tryd.func11, Tryd.ntmps11
    go_wp2_with (go_at_call 17; refine (awake_any _ HN.out).mono ?_; rintro e w1 ⟨rfl, hb1⟩)
    go_ret
    exact ⟨rfl, hb1⟩
  · have C18 := Lib.hid (fun w h => tokens_any s w hs h)
    by_cases he : (lexTokens s).2.2 = 0
    · obtain ⟨hr, h9, hc⟩ := shorter_ok he
      have h25 := textErr_ok (lexTokens_ok he).1
      have hT := tight_tokens hr h9 (Nat.le_trans hc h25)
      have hli : listErr ((lexTokens s).1.map Piece.tk) = 0 := by
        unfold listErr
        rw [if_neg (by omega), if_pos (List.all_eq_true.2 hr)]
      have htr := tight_fine hli (by omega)
      have hsm := tkP_same ((lexTokens s).1.map Piece.tk) [] 0
      have htx : ∀ x ∈ (lexTokens s).1.map Piece.tk, x.text.size ≤ 140737488355328 := by
        intro x hx
        obtain ⟨y, hy, rfl⟩ := List.mem_map.1 hx
        have := pcOrd_text (lexTokens_ok he).2.2.2.2 y hy
        show y.text.size ≤ _
        omega
      have hp9 : (tkP 0 ((lexTokens s).1.map Piece.tk) []).length ≤ 900 := by rw [tkP_length]; exact h9
      rw [he] at C18
      generalize (lexTokens s).2.1 = z1 at C18
      have hsz : (⟨(tgtAt ((lexTokens s).1.map Piece.tk) ((lexTokens s).1.map Piece.tk).length).toArray⟩ : ByteArray).size ≤ s.size := by
        show (tgtAt _ _).toArray.size ≤ _
        rw [List.size_toArray]
        exact hc
      generalize tkP 0 ((lexTokens s).1.map Piece.tk) [] = P at hT hsm hp9
      generalize (lexTokens s).1 = a at *
      clear hr he hli
      have C28 : Hid (∀ w v, NumVars w → TkIn w w.heap.size v (a.map Piece.tk) → Calls Tryd.prog 28 #[v] w fun e w' => e = .returned (.tuple #[.string ⟨(tgtAt (a.map Piece.tk) (a.map Piece.tk).length).toArray⟩, .int .i64 0]) ∧ Below w.heap.size w w') := Lib.hid (fun w v hn hv => by
        have := tight_any v (a.map Piece.tk) w (by omega) htx (by omega) hn hv
        rw [htr] at this
        exact this)
      generalize (⟨(tgtAt (a.map Piece.tk) (a.map Piece.tk).length).toArray⟩ : ByteArray) = t at hT C28 hsz
      have C18b : Hid (∀ w, NumVars w → Calls Tryd.prog 18 #[.string t] w fun e w' => ∃ v, e = .returned (.tuple #[v, .int .i64 0, .int .i64 0]) ∧ Below w.heap.size w w' ∧ OwnToks w' w.heap.size v P) := Lib.hid (fun w h => by
        have := tokens_any t w (by omega) h
        rw [hT] at this
        exact this)
      have hK : sameK (a.map Piece.tk) (P.map Piece.tk) = true := by
        rw [← sameB_K]
        exact decide_eq_true hsm
      have C47 := Lib.hid (fun v v' w h h' => sameBut_any v v' (a.map Piece.tk) (P.map Piece.tk) w (by omega) (by rw [List.length_map]; omega) h h')
      rw [hK] at C47
      have HL := Lib.hid (show (a.map Piece.tk).length * 32 ≤ 140737488355328 by omega)
      have HLE := Lib.hid (show (a.map Piece.tk).length = a.length from List.length_map ..)
      clear hK hsm hT htr htx hc h9 hp9
      go_enter Tryd.func11, Tryd.ntmps11
      go_wp2_with (first
        | (go_at_call 18; refine (C18.out _ HN.out).mono ?_; rintro e w1 ⟨v1, rfl, hb1, ht1⟩; have HB1 := Lib.hid hb1; have HN1 := Lib.hid (HN.out.keep hb1); have HT1 := Lib.hid (tkIn_of_tok (tokIn_of_own ht1)); obtain ⟨A1, c1, rfl, _⟩ := own_cap ht1; clear hb1 ht1 C18)
        | (at_builtin; refine wpList_append_tok rfl _ _ rfl _ A1 a.length c1 (a.map Piece.tk) rfl rfl HT1.out HL.out ?_; intro v2 w2 ht2 hb2; have HT2 := Lib.hid ht2; have HB2 := Lib.hid (HB1.out.trans (hb2.mono HB1.out.size)); have HN2 := Lib.hid (HN1.out.keep hb2); have HT1b := Lib.hid ((HT1.out.below hb2).more hb2.size); clear HB1 HT1 HN1 ht2 hb2)
        | (go_at_call 28; refine (C28.out _ _ HN2.out HT2.out).mono ?_; rintro e w3 ⟨rfl, hb3⟩; have HB3 := Lib.hid (HB2.out.trans (hb3.mono HB2.out.size)); have HN3 := Lib.hid (HN2.out.keep hb3); have HT1c := Lib.hid ((HT1b.out.below hb3).more hb3.size); clear hb3 HB2 HN2 HT2 HT1b C28)
        | (go_at_call 18; refine (C18b.out _ HN3.out).mono ?_; rintro e w4 ⟨v4, rfl, hb4, ht4⟩; have HB4 := Lib.hid (HB3.out.trans (hb4.mono HB3.out.size)); have HN4 := Lib.hid (HN3.out.keep hb4); have HT1d := Lib.hid ((HT1c.out.below hb4).more hb4.size); have HT4 := Lib.hid (tkIn_of_tok (tokIn_of_own ht4)); clear hb4 ht4 HB3 HN3 HT1c C18b)
        | (go_at_call 47; refine (C47.out _ _ _ HT1d.out HT4.out).mono ?_; rintro e w5 ⟨rfl, hb5⟩; have HB5 := Lib.hid (HB4.out.trans (hb5.mono HB4.out.size)); have HN5 := Lib.hid (HN4.out.keep hb5); clear hb5 HB4 HN4)
        | (go_at_call 17; refine (awake_any _ HN5.out).mono ?_; rintro e w6 ⟨rfl, hb6⟩))
      go_ret
      exact ⟨rfl, HB5.out.trans (hb6.mono HB5.out.size)⟩
    · have HE := Lib.hid he
      have heb : ((lexTokens s).2.2 != 0) = true := by simpa using he
      generalize (lexTokens s).2.2 = e0 at C18 heb
      generalize (lexTokens s).2.1 = z0 at C18
      clear he HE
      go_enter Tryd.func11, Tryd.ntmps11
      go_wp2_with (first
        | (go_at_call 18; refine (C18.out _ HN.out).mono ?_; rintro e w1 ⟨v1, rfl, hb1, ht1⟩; have HB1 := Lib.hid hb1; have HN1 := Lib.hid (HN.out.keep hb1); clear hb1 ht1 C18)
        | (go_at_call 17; refine (awake_any _ HN1.out).mono ?_; rintro e w2 ⟨rfl, hb2⟩))
      go_ret
      exact ⟨rfl, HB1.out.trans (hb2.mono HB1.out.size)⟩
end Go.Proofs.YtjadjmkbjolklaaDoor
