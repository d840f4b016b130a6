/- The tokens of a text are right, and their shortest text is not longer than it. -/
import Derived.Test.YtjadjmkbjolklaaDoorTgtD
import Derived.Test.YtjadjmkbjolklaaDoorFarA
namespace Go.Proofs.YtjadjmkbjolklaaDoor
open Go

/-- How long the shortest text is. -/
def costT : List Tk → Nat
  | [] => 0
  | x :: r => x.text.size + (gapTo x r).length + costT r

theorem cost_segs : ∀ l : List Tk, segLen (segsX l []) = costT l
  | [] => rfl
  | x :: r => by
    rw [segsX, segLen, costT, cost_segs r, List.append_nil]
    have : x.text.data.toList.length = x.text.size := by simp
    omega

theorem cost_tgt (l : List Tk) : (tgtAt l l.length).length = costT l := by
  rw [tgt_segs, rend_length, cost_segs]
  rfl

theorem pcOf_tok {k : Nat} {p : List UInt8} (h : isNote (pcOf k p) = false) : (kindP ⟨p.toArray⟩).1 ≠ 5 ∧ (pcOf k p).text = ⟨p.toArray⟩ := by
  have hk : (kindP ⟨p.toArray⟩).1 ≠ 5 := by
    intro e
    unfold isNote pcOf at h
    simp [e] at h
  exact ⟨hk, if_neg hk⟩

theorem tok_right_pc {k : Nat} {p R : List UInt8} (hp : p ≠ []) (hpe : peL (p ++ R) = p.length) (hn : isNote (pcOf k p) = false) (he : (pcOf k p).err = 0) : isRightP (pcOf k p).kind (pcOf k p).text = true := by
  obtain ⟨h5, ht⟩ := pcOf_tok hn
  rw [ht]
  have hz : (⟨p.toArray⟩ : ByteArray).size = p.length := by simp [ByteArray.size]
  have hpos : 0 < p.length := List.length_pos_iff.2 hp
  have hd : (⟨p.toArray⟩ : ByteArray).data.toList = p := by simp
  have hpl := peL_eq ⟨p.toArray⟩ 0 (by omega)
  rw [hd, List.drop_zero, peL_self hpe] at hpl
  unfold isRightP
  simp only [Bool.and_eq_true, decide_eq_true_eq]
  exact ⟨by omega, by omega, he, rfl, h5⟩

theorem seg_right : ∀ (l : List (List UInt8 × List UInt8)) (R : List UInt8) (k : Nat), good l R → ∀ x ∈ segP k l, isNote x = false → x.err = 0 → isRightP x.kind x.text = true
  | [], _, _, _, x, h, _, _ => by cases h
  | (p, g) :: r, R, k, hg, x, h, hn, he => by
    obtain ⟨⟨c, q, hp, hc⟩, _, hpe, hr⟩ := hg
    rw [segP] at h
    rcases List.mem_cons.1 h with rfl | h
    · exact tok_right_pc (by rw [hp]; simp) hpe hn he
    · exact seg_right r R _ hr x h hn he

theorem tokAcc_err : ∀ (l acc acc' : List Piece), tokAcc acc l = some acc' → ∀ p ∈ l, isNote p = false → p.err = 0
  | [], _, _, _, p, hp, _ => by cases hp
  | q :: r, acc, acc', h, p, hp, hn => by
    rw [tokAcc] at h
    by_cases hq : isNote q = true
    · rw [if_pos hq] at h
      rcases List.mem_cons.1 hp with rfl | hp
      · rw [hn] at hq
        cases hq
      · exact tokAcc_err r _ _ h p hp hn
    · rw [if_neg hq] at h
      by_cases he : q.err ≠ 0 ∨ acc.length = 900
      · rw [if_pos he] at h
        cases h
      · rw [if_neg he] at h
        rcases List.mem_cons.1 hp with rfl | hp
        · by_cases h0 : p.err = 0
          · exact h0
          · exact absurd (.inl h0) he
        · exact tokAcc_err r _ _ h p hp hn

/-- A text's pieces with gaps. -/
theorem pcs_segs (s : ByteArray) : ∃ g l, (∀ c ∈ g, inCls [1] c = true) ∧ good l [] ∧ s.data.toList = g ++ rend l [] ∧ pcs s = segP g.length l := by
  obtain ⟨l, h1, h2⟩ := seg_of (s.data.toList.dropWhile (inCls [1])).length _ (Nat.le_refl _) (dropW_head (inCls [1]) s.data.toList)
  have hs : s.data.toList = s.data.toList.takeWhile (inCls [1]) ++ rend l [] := by rw [h2, List.takeWhile_append_dropWhile]
  have hg : ∀ c ∈ s.data.toList.takeWhile (inCls [1]), inCls [1] c = true := takeW_all _ _
  generalize s.data.toList.takeWhile (inCls [1]) = g at hs hg
  refine ⟨g, l, hg, h1, hs, ?_⟩
  have hz : s.data.toList.length = s.size := by simp
  rw [pcs_eq, hs, pcsG_seg _ _ _ _ _ hg h1 (by rw [← hs]; omega), pcsL_nil, List.append_nil, Nat.zero_add]

theorem tokens_right {s : ByteArray} (h : (lexTokens s).2.2 = 0) : ∀ x ∈ (lexTokens s).1, isRightP x.kind x.text = true := by
  obtain ⟨g, l, _, h1, _, h3⟩ := pcs_segs s
  obtain ⟨_, h2, _, _, _⟩ := lexTokens_ok h
  rw [tokens_tks h]
  intro x hx
  obtain ⟨h4, h5⟩ := List.mem_filter.1 hx
  have hn : isNote x = false := by simpa using h5
  have he := tokAcc_err _ _ _ h2 x h4 hn
  rw [h3] at h4
  exact seg_right l [] _ h1 x h4 hn he

theorem cost_le : ∀ (l : List (List UInt8 × List UInt8)) (k : Nat), good l [] → (∀ x ∈ segP k l, isNote x = false → isRightP x.kind x.text = true) →
    costT ((tks (segP k l)).map Piece.tk) ≤ segLen l ∧ (∀ p g r, l = (p, g) :: r → isNote (pcOf k p) = true → costT ((tks (segP k l)).map Piece.tk) + 1 ≤ segLen l)
  | [], k, _, _ => ⟨Nat.le_refl _, fun p g r h => by cases h⟩
  | (p, g) :: r, k, hg, hr => by
    obtain ⟨⟨c, q, hp, hc⟩, hgg, hpe, hgr⟩ := hg
    have hpl : 0 < p.length := by rw [hp]; simp
    rw [segP] at hr ⊢
    obtain ⟨ih1, ih2⟩ := cost_le r (k + p.length + g.length) hgr (fun x hx => hr x (.tail _ hx))
    rw [segLen]
    by_cases hn : isNote (pcOf k p) = true
    · have ht : tks (pcOf k p :: segP (k + p.length + g.length) r) = tks (segP (k + p.length + g.length) r) := by
        unfold tks
        rw [List.filter_cons, if_neg (by simp [hn])]
      rw [ht]
      exact ⟨by omega, fun _ _ _ _ _ => by omega⟩
    · have hn' : isNote (pcOf k p) = false := by simpa using hn
      have ht : tks (pcOf k p :: segP (k + p.length + g.length) r) = pcOf k p :: tks (segP (k + p.length + g.length) r) := by
        unfold tks
        rw [List.filter_cons, if_pos (by simp [hn'])]
      rw [ht]
      refine ⟨?_, fun p' g' r' e hx => ?_⟩
      · rw [List.map_cons, costT]
        have hsz : (pcOf k p).tk.text.size = p.length := pcOf_size hn'
        have hg1 : ∀ (x : Tk) (m : List Tk), (gapTo x m).length ≤ 1 := by
          intro x m
          unfold gapTo
          split
          · simp
          · split <;> simp
        have h1 := hg1 (pcOf k p).tk ((tks (segP (k + p.length + g.length) r)).map Piece.tk)
        cases g with
        | cons d g =>
          simp only [List.length_cons] at ih1 h1 ⊢
          omega
        | nil =>
          cases r with
          | nil => simp [segP, tks, gapTo, costT, hsz, segLen]
          | cons a r =>
            obtain ⟨p', g'⟩ := a
            by_cases hn2 : isNote (pcOf (k + p.length + ([] : List UInt8).length) p') = true
            · have := ih2 p' g' r rfl hn2
              simp only [List.length_nil] at this h1 ⊢
              omega
            · have hn2' : isNote (pcOf (k + p.length + ([] : List UInt8).length) p') = false := by simpa using hn2
              have hx : rightT (pcOf k p).tk = true := hr _ (.head _) hn'
              have hy : rightT (pcOf (k + p.length + ([] : List UInt8).length) p').tk = true := hr (pcOf (k + p.length + ([] : List UInt8).length) p') (by rw [segP]; exact .tail _ (.head _)) hn2'
              obtain ⟨⟨c', q', hp', hc'⟩, _⟩ := hgr
              have hty : (pcOf (k + p.length + ([] : List UInt8).length) p').tk.text.data.toList = c' :: q' := by
                show (pcOf (k + p.length + ([] : List UInt8).length) p').text.data.toList = _
                rw [(pcOf_tok hn2').2, hp']
              have htx : (pcOf k p).tk.text.data.toList = p := by
                show (pcOf k p).text.data.toList = _
                rw [(pcOf_tok hn').2]
              have hgl : ¬ glue (pcOf k p).tk (pcOf (k + p.length + ([] : List UInt8).length) p').tk = true := by
                intro hgl
                have := no_junct hx hy hgl hty (q' ++ (g' ++ rend r []))
                rw [htx] at this
                rw [rend, hp', List.nil_append] at hpe
                rw [List.cons_append] at hpe
                omega
              have ht2 : tks (segP (k + p.length + ([] : List UInt8).length) ((p', g') :: r)) = pcOf (k + p.length + ([] : List UInt8).length) p' :: tks (segP (k + p.length + ([] : List UInt8).length + p'.length + g'.length) r) := by
                unfold tks
                rw [segP, List.filter_cons, if_pos (by rw [hn2']; rfl)]
              rw [ht2] at ih1 ⊢
              rw [List.map_cons] at ih1 ⊢
              have hg0 : (gapTo (pcOf k p).tk ((pcOf (k + p.length + ([] : List UInt8).length) p').tk :: (tks (segP (k + p.length + ([] : List UInt8).length + p'.length + g'.length) r)).map Piece.tk)).length = 0 := by
                unfold gapTo
                simp only []
                rw [if_neg hgl]
                rfl
              rw [hg0, hsz]
              simp only [List.length_nil] at ih1 ⊢
              omega
      · cases e
        rw [hn'] at hx
        cases hx

/-- The shortest text with the tokens of a text. -/
theorem shorter_ok {s : ByteArray} (h : (lexTokens s).2.2 = 0) : (∀ x ∈ (lexTokens s).1.map Piece.tk, rightT x = true) ∧ ((lexTokens s).1.map Piece.tk).length ≤ 900 ∧ (tgtAt ((lexTokens s).1.map Piece.tk) ((lexTokens s).1.map Piece.tk).length).length ≤ s.size := by
  have hr := tokens_right h
  obtain ⟨_, _, _, h9, _⟩ := lexTokens_ok h
  refine ⟨fun x hx => ?_, by rw [List.length_map]; exact h9, ?_⟩
  · obtain ⟨y, hy, rfl⟩ := List.mem_map.1 hx
    exact hr y hy
  · obtain ⟨g, l, _, h1, h2, h3⟩ := pcs_segs s
    rw [cost_tgt, tokens_tks h, h3]
    have hc := (cost_le l g.length h1 (fun x hx hn => hr x (by rw [tokens_tks h, h3]; exact List.mem_filter.2 ⟨hx, by rw [hn]; rfl⟩))).1
    have hz := congrArg List.length h2
    rw [List.length_append, rend_length] at hz
    have : s.data.toList.length = s.size := by simp
    simp only [List.length_nil] at hz
    omega
end Go.Proofs.YtjadjmkbjolklaaDoor
