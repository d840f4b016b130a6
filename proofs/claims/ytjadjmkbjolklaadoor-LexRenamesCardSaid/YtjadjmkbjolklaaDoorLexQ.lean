/- The contract of lex.Rename. -/
import Derived.Test.YtjadjmkbjolklaaDoorLexP
import Derived.Test.YtjadjmkbjolklaaDoorPure6
import Derived.Test.YtjadjmkbjolklaaDoorLexI
namespace Go.Proofs.YtjadjmkbjolklaaDoor
open Go.RowKit

/-- A slice value that holds tokens, in a block below B. -/
def TokIn (W : World) (B : Nat) (v : Value) (l : List Piece) : Prop :=
  ∃ A c, v = .slice A l.length c ∧ ∀ i (x : Piece), l[i]? = some x → ∃ b off, A = some ⟨b, off, none⟩ ∧ b < B ∧
    W.cell? ⟨b, off + i * 3, none⟩ = some (.int .u8 x.kind) ∧ W.cell? ⟨b, off + i * 3 + 1, none⟩ = some (.string x.text) ∧ W.cell? ⟨b, off + i * 3 + 2, none⟩ = some (.int .i64 x.at_)

theorem TokIn.more {W : World} {B B' : Nat} {v : Value} {l : List Piece} (h : TokIn W B v l) (hB : B ≤ B') : TokIn W B' v l := by
  obtain ⟨A, c, rfl, hA⟩ := h
  refine ⟨A, c, rfl, fun i x hx => ?_⟩
  obtain ⟨b, off, rfl, h0, h1⟩ := hA i x hx
  exact ⟨b, off, rfl, by omega, h1⟩

theorem TokIn.below {W W' : World} {B : Nat} {v : Value} {l : List Piece} (h : TokIn W B v l) (hb : Below B W W') : TokIn W' B v l := by
  obtain ⟨A, c, rfl, hA⟩ := h
  refine ⟨A, c, rfl, fun i x hx => ?_⟩
  obtain ⟨b, off, rfl, hB, h1, h2, h3⟩ := hA i x hx
  exact ⟨b, off, rfl, hB, (hb.cell (p := ⟨b, _, none⟩) hB).trans h1, (hb.cell (p := ⟨b, _, none⟩) hB).trans h2, (hb.cell (p := ⟨b, _, none⟩) hB).trans h3⟩

theorem cells_get {α : Type} (f : α → List Value) (n : Nat) (hf : ∀ x, (f x).length = n) : ∀ (l : List α) (i : Nat) (x : α), l[i]? = some x → ∀ j u, (f x)[j]? = some u → (l.flatMap f)[i * n + j]? = some u
  | [], i, x, h, _, _, _ => by simp at h
  | y :: r, 0, x, h, j, u, hj => by
    simp only [List.getElem?_cons_zero, Option.some.injEq] at h
    subst h
    rw [List.flatMap_cons, List.getElem?_append_left (by have := (List.getElem?_eq_some_iff.1 hj).1; omega)]
    simpa using hj
  | y :: r, i + 1, x, h, j, u, hj => by
    have ih := cells_get f n hf r i x (by simpa using h) j u hj
    rw [List.flatMap_cons, List.getElem?_append_right (by rw [hf, Nat.add_mul]; omega), hf, show (i + 1) * n + j - n = i * n + j by rw [Nat.add_mul]; omega]
    exact ih

theorem tokIn_of_own {W : World} {n₀ : Nat} {v : Value} {l : List Piece} (h : OwnToks W n₀ v l) : TokIn W W.heap.size v l := by
  obtain ⟨A, c, rfl, hA⟩ := row_at h
  refine ⟨A, c, rfl, fun i x hx => ?_⟩
  have hg := fun j u => cells_get Piece.cells3 3 (fun _ => rfl) l i x hx j u
  have hne : tokCells l ≠ [] := by
    intro e
    have := hg 0 _ rfl
    rw [show l.flatMap Piece.cells3 = tokCells l from rfl, e] at this
    simp at this
  obtain ⟨b, rfl, hb, hc⟩ := hA hne
  refine ⟨b, 0, rfl, hb, ?_, ?_, ?_⟩
  · have := hc _ _ (hg 0 _ rfl); simpa using this
  · have := hc _ _ (hg 1 _ rfl); simpa using this
  · have := hc _ _ (hg 2 _ rfl); simpa using this

/-- The cells of splices. -/
def Spl.cells3 (x : Spl) : List Value := [.int .i64 x.from_, .int .i64 x.to_, .string x.text]
def splCells (l : List Spl) : List Value := l.flatMap Spl.cells3
theorem splCells_append (l l' : List Spl) : splCells (l ++ l') = splCells l ++ splCells l' := by simp [splCells]

theorem splIn_of_own {W : World} {n₀ : Nat} {v : Value} {l : List Spl} (h : W.ownsRow n₀ 56 3 v l.length (splCells l)) : SplIn W W.heap.size v l := by
  obtain ⟨A, c, rfl, hA⟩ := row_at h
  refine ⟨A, c, rfl, fun i x hx => ?_⟩
  have hg := fun j u => cells_get Spl.cells3 3 (fun _ => rfl) l i x hx j u
  have hne : splCells l ≠ [] := by
    intro e
    have := hg 0 _ rfl
    rw [show l.flatMap Spl.cells3 = splCells l from rfl, e] at this
    simp at this
  obtain ⟨b, rfl, hb, hc⟩ := hA hne
  refine ⟨b, 0, rfl, hb, ?_, ?_, ?_⟩
  · have := hc _ _ (hg 0 _ rfl); simpa using this
  · have := hc _ _ (hg 1 _ rfl); simpa using this
  · have := hc _ _ (hg 2 _ rfl); simpa using this

theorem info56 : (Tryd.prog.info? 56).map (fun i => (i.zero, i.size, i.bytes)) = some (some (.agg #[.int .i64 0, .int .i64 0, .string ByteArray.empty]), 3, 32) := by kernel_rfl

theorem renSpls_append (old name : ByteArray) : ∀ (l l' : List Piece), renSpls old name (l ++ l') = renSpls old name l ++ renSpls old name l'
  | [], l' => rfl
  | t :: r, l' => by
    rw [List.cons_append, renSpls, renSpls, renSpls_append old name r l']
    split <;> rfl

theorem toList_beq (a b : ByteArray) : (a.toList == b.toList) = decide (a = b) := by
  rw [Lib.toList_data, Lib.toList_data, Bool.eq_iff_iff]
  simp only [beq_iff_eq, decide_eq_true_eq]
  constructor
  · intro h
    obtain ⟨⟨x⟩⟩ := a
    obtain ⟨⟨y⟩⟩ := b
    simp only at h
    rw [h]
  · intro h
    rw [h]

theorem pcOrd_at (n : Nat) : ∀ (l : List Piece) (f k : Nat) (x : Piece), pcOrd n f l → l[k]? = some x → x.at_ + x.text.size ≤ n
  | [], _, _, _, _, hx => by simp at hx
  | y :: r, _, 0, x, h, hx => by
    simp only [List.getElem?_cons_zero, Option.some.injEq] at hx
    subst hx
    exact h.2.1
  | y :: r, _, k + 1, x, h, hx => pcOrd_at n r _ k x h.2.2 (by simpa using hx)

/-- What lex.Rename returns. -/
def renameRes (s old name : ByteArray) : List UInt8 × Int :=
  if (lexTokens s).2.2 ≠ 0 then ([], (lexTokens s).2.2)
  else if isRightP 1 old = false ∨ isRightP 1 name = false then ([], 2)
  else if renSpls old name (lexTokens s).1 = [] then ([], 7)
  else if (lexTokens s).1.any (fun t => decide (t.text = name)) = true then ([], 6)
  else if (planRes s (renSpls old name (lexTokens s).1)).2 ≠ 0 then ([], (planRes s (renSpls old name (lexTokens s).1)).2)
  else (afterB s 0 (chgs s 0 (renSpls old name (lexTokens s).1)), 0)

theorem renSpls_take {old name : ByteArray} {l : List Piece} {k : Nat} {x : Piece} (h : l[k]? = some x) :
    renSpls old name (l.take (k + 1)) = renSpls old name (l.take k) ++ (if x.text = old then [⟨x.at_, x.at_ + old.size, name⟩] else []) := by
  obtain ⟨hk, rfl⟩ := List.getElem?_eq_some_iff.1 h
  rw [List.take_succ_eq_append_getElem hk, renSpls_append]
  congr 1

theorem any_take {p : Piece → Bool} {l : List Piece} {k : Nat} {x : Piece} (h : l[k]? = some x) : (l.take (k + 1)).any p = ((l.take k).any p || p x) := by
  obtain ⟨hk, rfl⟩ := List.getElem?_eq_some_iff.1 h
  rw [List.take_succ_eq_append_getElem hk, List.any_append, List.any_cons, List.any_nil, Bool.or_false]

set_option maxRecDepth 100000 in
set_option maxHeartbeats 4000000 in
theorem rename_any (s old name : ByteArray) (w : World) (hs : s.size ≤ 140737488355328) (ho : old.size ≤ 140737488355328) (hn : name.size ≤ 140737488355328) (hv : NumVars w) :
    Calls Tryd.prog 45 #[.string s, .string old, .string name] w fun e w' => e = .returned (.tuple #[.string ⟨(renameRes s old name).1.toArray⟩, .int .i64 (renameRes s old name).2]) ∧ Below w.heap.size w w' := by
  have HV := Lib.hid hv
  clear hv
  by_cases he : (lexTokens s).2.2 = 0
  · have HE := Lib.hid he
    have heb : ((lexTokens s).2.2 != 0) = false := by simpa using he
    clear he
    go_enter Tryd.func45, Tryd.ntmps45
    by_cases h1 : isRightP 1 old = true
    · by_cases h2 : isRightP 1 name = true
      · have H1 := Lib.hid h1
        have H2 := Lib.hid h2
        obtain ⟨k1, k2, k3, k4, k5⟩ := lexTokens_ok HE.out
        have K4 := Lib.hid k4
        have K5 := Lib.hid k5
        clear k1 k2 k3 k4 k5
        have hlen : (lexTokens s).1.length ≤ 900 := K4.out
        obtain ⟨i0, hi, hz0, hz1, hz2⟩ := info_parts info56
        go_wp2_with (first
          | (go_at_call 18; refine (tokens_any s _ hs HV.out).mono ?_; rintro e w1 ⟨v1, rfl, hb1, htok⟩; have hin := tokIn_of_own htok; obtain ⟨A, c, rfl, _⟩ := id hin; have HI1 := Lib.hid hin; clear hin htok)
          | (go_at_call 50; refine (keywords_any _).mono ?_; rintro e w2 ⟨rfl, rfl⟩; have HM := Lib.hid (KwMap.new w1); have HV1 := Lib.hid ((HV.out.keep hb1).alloc (.map (kwArr 30) 30)); have hz := w1.size_alloc (.map (kwArr 30) 30))
          | (go_at_call 80; refine (isName_any old _ _ ho HV1.out HM.out).mono ?_; rintro e w3 ⟨rfl, hb3⟩; have HM3 := Lib.hid (HM.out.below hb3 (by rw [hz]; omega)); have HV3 := Lib.hid (HV1.out.keep hb3))
          | (go_at_call 80; refine (isName_any name _ _ hn HV3.out HM3.out).mono ?_; rintro e w4 ⟨rfl, hb4⟩; have HI4 := Lib.hid ((((HI1.out.below ((Below.refl _ _).alloc (Nat.le_refl _) _)).more (by rw [hz]; omega)).below hb3 |>.more hb3.size).below hb4 |>.more hb4.size); have HB4 := Lib.hid ((((hb1.alloc hb1.size _).trans (hb3.mono (by rw [hz]; have := hb1.size; omega))).trans (hb4.mono (by have := hb3.size; have := hb1.size; rw [hz] at *; omega)))); clear hb1 hb3 hb4 HI1 HM HM3 HV1 HV3 hz))
        generalize hl : (lexTokens s).1 = l at HI4 K4 K5 hlen ⊢
        have HL := Lib.hid hl
        clear hl h1 h2
        go_loopw [12, 13, 39] (fun v tw i wr => ∃ (k : Nat) (t : Bool), k ≤ l.length ∧ i = .int .i64 k ∧ tw = .bool t ∧ Hid (t = (l.take k).any (fun t => decide (t.text = name))) ∧
          wr.ownsRow w4.heap.size 56 3 v (renSpls old name (l.take k)).length (splCells (renSpls old name (l.take k))) ∧ Below w4.heap.size w4 wr) (fun _ _ i _ => l.length - (intOf i).toNat)
        case atStart => exact ⟨0, false, by omega, rfl, rfl, Lib.hid rfl, World.ownsRow_nil _ _ _ _, Below.refl _ _⟩
        case round =>
          obtain ⟨k, t, hk, rfl, rfl, HT, hrow, hb⟩ := hrel
          by_cases hkl : k < l.length
          · obtain ⟨x, hx⟩ : ∃ x, l[k]? = some x := ⟨_, List.getElem?_eq_getElem hkl⟩
            obtain ⟨A', c', hA', hin⟩ := HI4.out
            obtain ⟨b, off, rfl, hB, g1, g2, g3⟩ := hin k x hx
            have HX := Lib.hid hx
            have d1 := (hb.cell (p := ⟨b, _, none⟩) hB).trans g1
            have d2 := (hb.cell (p := ⟨b, _, none⟩) hB).trans g2
            have d3 := (hb.cell (p := ⟨b, _, none⟩) hB).trans g3
            have hA2 := hA'
            have hpo := pcOrd_at _ _ _ _ _ K5.out hx
            clear g1 g2 g3 hx hin hA'
            cases hA2
            have hsz := hb.size
            have hrl : (renSpls old name (l.take k)).length ≤ k := by have := renSpls_length old name (l.take k); simp at this; omega
            obtain ⟨A3, c3, rfl⟩ := slice_of hrow
            by_cases he : x.text = old
            · have HO := Lib.hid he
              have heb2 : (x.text.toList == old.toList) = true := by rw [toList_beq]; simpa using he
              rw [he] at hpo
              clear he
              cases t
              all_goals go_wp2_with (at_builtin; refine wpList_append_own _ rfl _ _ 45 rfl w4.heap.size 56 i0 _ 3 32 Tryd.underlying45 hi hz0 hz1 hz2 rfl (by decide) _ _ _ rfl ((hrow.alloc _).alloc _) ⟨wr.heap.size + 1, 0, none⟩ 1 1 [.int .i64 x.at_, .int .i64 ((x.at_ : Int) + old.size), .string name] rfl rfl (by have h := cells_new (wr.alloc (.cells #[.int .u8 x.kind, .string x.text, .int .i64 x.at_] 63)) 56 [.int .i64 x.at_, .int .i64 ((x.at_ : Int) + old.size), .string name]; rw [World.size_alloc] at h; exact h) (by simp [Value.oneCell']) (by unfold maxLen; omega) (by omega) (by simp; omega) ?_; intro v' w5 hown' hgrow' _)
              all_goals have hb5 : Below w4.heap.size w4 w5 := ((hb.alloc hsz _).alloc (by simp; omega) _).grown hgrow' (by simp; omega) (fun k e => row_base hrow e)
              all_goals refine ⟨⟨k + 1, _, by omega, by go_num, rfl, Lib.hid (by rw [any_take HX.out, ← HT.out]; simp [toList_beq]), ?_, hb5⟩, by simp [intOf]; omega⟩
              all_goals (rw [renSpls_take HX.out, if_pos HO.out, splCells_append, List.length_append]; exact hown')
            · have HO := Lib.hid he
              have heb2 : (x.text.toList == old.toList) = false := by rw [toList_beq]; simpa using he
              clear he
              cases t
              all_goals go_wp2
              all_goals refine ⟨⟨k + 1, _, by omega, by go_num, rfl, Lib.hid (by rw [any_take HX.out, ← HT.out]; simp [toList_beq]), ?_, hb.alloc hsz _⟩, by simp [intOf]; omega⟩
              all_goals (rw [renSpls_take HX.out, if_neg HO.out, List.append_nil]; exact hrow.alloc _)
          · obtain rfl : k = l.length := by omega
            have hT := HT.out
            rw [List.take_length] at hT hrow
            have HT2 := Lib.hid hT
            have hRl := renSpls_length old name l
            have hsz := hb.size
            have hszw := HB4.out.size
            have HRo := Lib.hid (renSpls_right s.size old name l 0 K5.out)
            have HRt := Lib.hid (renSpls_text old name l)
            have hbase : renameRes s old name = if renSpls old name l = [] then ([], 7)
              else if l.any (fun t => decide (t.text = name)) = true then ([], 6)
              else if (planRes s (renSpls old name l)).2 ≠ 0 then ([], (planRes s (renSpls old name l)).2)
              else (afterB s 0 (chgs s 0 (renSpls old name l)), 0) := by
              unfold renameRes
              rw [if_neg (by rw [HE.out]; simp), if_neg (by rw [H1.out, H2.out]; simp), HL.out]
            have HBase := Lib.hid hbase
            have HBW := Lib.hid (HB4.out.trans (hb.mono hszw))
            clear hT hbase HT hb
            generalize hR : renSpls old name l = R at HBase HRo HRt hrow hRl ⊢
            clear hR
            obtain ⟨A3, c3, rfl⟩ := slice_of hrow
            by_cases h0 : R = []
            · have h0b : ((R.length : Int) == 0) = true := by rw [h0]; rfl
              have H0 := Lib.hid h0
              clear h0
              go_wp2
              go_ret2
              rw [HBase.out, if_pos H0.out]
              exact ⟨rfl, HBW.out⟩
            · have h0b : ((R.length : Int) == 0) = false := by
                have : R.length ≠ 0 := fun e => h0 (List.eq_nil_of_length_eq_zero e)
                simpa using this
              have H0 := Lib.hid h0
              clear h0
              cases t with
              | true =>
                go_wp2
                go_ret2
                rw [HBase.out, if_neg H0.out, if_pos HT2.out.symm]
                exact ⟨rfl, HBW.out⟩
              | false =>
                have hin := splIn_of_own hrow
                have HIN := Lib.hid hin
                have HSI := Lib.hid (splRight_in s.size R 0 (Int.le_refl 0) HRo.out (fun x hx => by rw [HRt.out x hx]; exact hn))
                clear hin
                by_cases hp : (planRes s R).2 = 0
                · have HP := Lib.hid hp
                  have hpb : ((planRes s R).2 != 0) = false := by simpa using hp
                  clear hp
                  go_wp2_with (go_at_call 81; refine (plan_any s _ R _ hs (by omega) HSI.out HIN.out).mono ?_; rintro e w6 ⟨v6, rfl, hb6, hrow6⟩; clear hrow)
                  have q3 : planRes s R = (chgs s 0 R, 0) ∧ (s.size : Int) + grown s 0 R ≤ 2500 := by
                    have := HP.out
                    unfold planRes at this ⊢
                    split at this
                    · cases this
                    · rename_i h3
                      rw [if_neg h3]
                      exact ⟨rfl, by omega⟩
                  have q2 := chgs_ord s R 0 0 (Int.le_refl 0) (by omega) HRo.out
                  rw [q3.1] at hrow6
                  have hci := chgIn_of_own hrow6
                  have HC := Lib.hid hci
                  have HQ := Lib.hid q2
                  have HP4 := Lib.hid q3
                  clear q3 q2 hci hrow6
                  go_wp2_with (go_at_call 69; refine (textAfter_any s _ (chgs s 0 R) _ hs (by rw [chgs_length]; omega) HQ.out.1 (by have h1 := HQ.out.2; have h2 := HP4.out.2; simp only [Int.toNat_zero] at h1; omega) HC.out).mono ?_; rintro e w7 ⟨rfl, hb7⟩)
                  go_ret2
                  rw [HBase.out, if_neg H0.out, if_neg (by rw [← HT2.out]; simp), if_neg (by rw [HP.out]; simp)]
                  exact ⟨rfl, (HBW.out.trans (hb6.mono (by omega))).trans (hb7.mono (by have := hb6.size; omega))⟩
                · have HP := Lib.hid hp
                  have hpb : ((planRes s R).2 != 0) = true := by simpa using hp
                  clear hp
                  go_wp2_with (go_at_call 81; refine (plan_any s _ R _ hs (by omega) HSI.out HIN.out).mono ?_; rintro e w6 ⟨v6, rfl, hb6, hrow6⟩; clear hrow)
                  go_ret2
                  rw [HBase.out, if_neg H0.out, if_neg (by rw [← HT2.out]; simp), if_pos HP.out]
                  exact ⟨rfl, HBW.out.trans (hb6.mono (by omega))⟩
      · have h1b : isRightP 1 old = true := h1
        have h2b : isRightP 1 name = false := by simpa using h2
        have H2 := Lib.hid h2b
        clear h2 h1
        go_wp2_with (first
          | (go_at_call 18; refine (tokens_any s _ hs HV.out).mono ?_; rintro e w1 ⟨v1, rfl, hb1, htok⟩; clear htok)
          | (go_at_call 50; refine (keywords_any _).mono ?_; rintro e w2 ⟨rfl, rfl⟩; have HM := Lib.hid (KwMap.new w1); have HV1 := Lib.hid ((HV.out.keep hb1).alloc (.map (kwArr 30) 30)); have hz := w1.size_alloc (.map (kwArr 30) 30))
          | (go_at_call 80; refine (isName_any old _ _ ho HV1.out HM.out).mono ?_; rintro e w3 ⟨rfl, hb3⟩; have HM3 := Lib.hid (HM.out.below hb3 (by rw [hz]; omega)); have HV3 := Lib.hid (HV1.out.keep hb3))
          | (go_at_call 80; refine (isName_any name _ _ hn HV3.out HM3.out).mono ?_; rintro e w4 ⟨rfl, hb4⟩; have HB4 := Lib.hid ((((hb1.alloc hb1.size _).trans (hb3.mono (by rw [hz]; have := hb1.size; omega))).trans (hb4.mono (by have := hb3.size; have := hb1.size; rw [hz] at *; omega)))); clear hb1 hb3 hb4 HM HM3 HV1 HV3 hz))
        go_ret2
        have hr : renameRes s old name = ([], 2) := by unfold renameRes; rw [if_neg (by rw [HE.out]; simp), if_pos (.inr H2.out)]
        rw [hr]
        exact ⟨rfl, HB4.out⟩
    · have h1b : isRightP 1 old = false := by simpa using h1
      have H1 := Lib.hid h1b
      clear h1
      go_wp2_with (first
        | (go_at_call 18; refine (tokens_any s _ hs HV.out).mono ?_; rintro e w1 ⟨v1, rfl, hb1, htok⟩; clear htok)
        | (go_at_call 50; refine (keywords_any _).mono ?_; rintro e w2 ⟨rfl, rfl⟩; have HM := Lib.hid (KwMap.new w1); have HV1 := Lib.hid ((HV.out.keep hb1).alloc (.map (kwArr 30) 30)); have hz := w1.size_alloc (.map (kwArr 30) 30))
        | (go_at_call 80; refine (isName_any old _ _ ho HV1.out HM.out).mono ?_; rintro e w3 ⟨rfl, hb3⟩; have HB3 := Lib.hid ((hb1.alloc hb1.size _).trans (hb3.mono (by rw [hz]; have := hb1.size; omega)))))
      go_ret2
      have hr : renameRes s old name = ([], 2) := by unfold renameRes; rw [if_neg (by rw [HE.out]; simp), if_pos (.inl H1.out)]
      rw [hr]
      exact ⟨rfl, HB3.out⟩
  · have HE := Lib.hid he
    have heb : ((lexTokens s).2.2 != 0) = true := by simpa using he
    clear he
    go_enter Tryd.func45, Tryd.ntmps45
    go_wp2_with (go_at_call 18; refine (tokens_any s _ hs HV.out).mono ?_; rintro e w1 ⟨v1, rfl, hb1, htok⟩)
    go_ret2
    have hr : renameRes s old name = ([], (lexTokens s).2.2) := by unfold renameRes; rw [if_pos HE.out]
    rw [hr]
    exact ⟨rfl, hb1⟩
end Go.Proofs.YtjadjmkbjolklaaDoor
