/- The tokens of the shortest text are those that it has; without one of its blanks they are others. -/
import Derived.Test.YtjadjmkbjolklaaDoorTgtC
import Derived.Test.YtjadjmkbjolklaaDoorTks
import Derived.Test.YtjadjmkbjolklaaDoorDiffed
namespace Go.Proofs.YtjadjmkbjolklaaDoor
open Go

theorem inCls_txt {c : UInt8} (h : cls c.toNat ≠ 0) : inCls [1, 2, 3, 4, 5, 6, 7] c = true := by
  have := cls_bd c.toNat
  unfold inCls
  simp only [List.any_cons, List.any_nil, Bool.or_false, Bool.or_eq_true, beq_iff_eq]
  omega

/-- The bytes of a right token: none is a gap. -/
theorem right_bytes {x : Tk} (h : rightT x = true) : ∀ c ∈ x.text.data.toList, inCls [1, 2, 3, 4, 5, 6, 7] c = true ∧ inCls [1] c = false := by
  obtain ⟨a, p, e1, e2, e3, e4, e5, e6⟩ := right_pc h
  rw [e1] at e2 ⊢
  intro c hc
  by_cases hw : cls a.toNat = 2 ∨ cls a.toNat = 4
  · rw [peL_wordE hw] at e2
    have := spL_all _ _ e2 c hc
    unfold inCls at this
    simp only [List.any_cons, List.any_nil, Bool.or_false, Bool.or_eq_true, beq_iff_eq] at this
    refine ⟨inCls_txt (by omega), ?_⟩
    unfold inCls
    simp only [List.any_cons, List.any_nil, Bool.or_false, beq_eq_false_iff_ne, ne_eq]
    omega
  · have h5 : cls a.toNat = 5 := by
      rcases e6 with ⟨h, _⟩ | ⟨h, _⟩ | ⟨h, _⟩
      · exact absurd (.inl h) hw
      · exact absurd (.inr h) hw
      · exact h
    have ha : inCls [1, 2, 3, 4, 5, 6, 7] a = true ∧ inCls [1] a = false := ⟨inCls_txt (by rw [h5]; decide), by unfold inCls; simp [h5]⟩
    rcases sign_bytes h5 e2 with rfl | ⟨rfl, rfl⟩ | ⟨rfl, rfl⟩
    · obtain rfl := List.mem_singleton.1 hc
      exact ha
    · rcases List.mem_cons.1 hc with rfl | hc
      · exact ha
      · obtain rfl := List.mem_singleton.1 hc
        decide
    · rcases List.mem_cons.1 hc with rfl | hc
      · exact ha
      · obtain rfl := List.mem_singleton.1 hc
        decide

theorem gapTo_mem {x : Tk} {m : List Tk} : ∀ c ∈ gapTo x m, c = 32 := by
  intro c hc
  unfold gapTo at hc
  split at hc
  · cases hc
  · split at hc
    · exact List.mem_singleton.1 hc
    · cases hc

theorem rend_txt : ∀ (l m : List Tk) (R : List UInt8), (∀ x ∈ l, rightT x = true) → (∀ c ∈ R, inCls [1, 2, 3, 4, 5, 6, 7] c = true) → ∀ c ∈ rend (segsX l m) R, inCls [1, 2, 3, 4, 5, 6, 7] c = true
  | [], _, _, _, hR => hR
  | x :: r, m, R, hl, hR => by
    intro c hc
    rw [segsX, rend] at hc
    rcases List.mem_append.1 hc with hc | hc
    · exact (right_bytes (hl x (.head _)) c hc).1
    · rcases List.mem_append.1 hc with hc | hc
      · rw [gapTo_mem c hc]
        decide
      · exact rend_txt r m R (fun y hy => hl y (.tail _ hy)) hR c hc

theorem textErr_fine {l : List UInt8} (h : l.length ≤ 2500) (ht : ∀ c ∈ l, inCls [1, 2, 3, 4, 5, 6, 7] c = true) : textErr ⟨l.toArray⟩ = (0, 0) := by
  have hz : (⟨l.toArray⟩ : ByteArray).size = l.length := by simp [ByteArray.size]
  have h1 : txt ⟨l.toArray⟩ = (⟨l.toArray⟩ : ByteArray).size := txt_mem.2 (by simpa using ht)
  unfold textErr
  rw [if_neg (by omega), if_neg (by omega)]

/-- The tokens of the shortest text. -/
theorem tight_tokens {l : List Tk} (hl : ∀ x ∈ l, rightT x = true) (hn : l.length ≤ 900) (hs : (tgtAt l l.length).length ≤ 2500) : lexTokens ⟨(tgtAt l l.length).toArray⟩ = (tkP 0 l [], 0, 0) := by
  have hE := textErr_fine hs (by rw [tgt_segs]; exact rend_txt l [] [] hl (fun c hc => by cases hc))
  have hp : pcs ⟨(tgtAt l l.length).toArray⟩ = tkP 0 l [] := by
    have hz : (⟨(tgtAt l l.length).toArray⟩ : ByteArray).size = (tgtAt l l.length).length := by simp [ByteArray.size]
    have hg := pcsG_seg [] (segsX l []) [] (tgtAt l l.length).length 0 (fun c hc => by cases hc) (good_segs l [] [] hl rfl) (by rw [tgt_segs]; exact Nat.le_refl _)
    rw [List.nil_append, pcsL_nil, List.append_nil, segP_right l [] _ hl, ← tgt_segs] at hg
    rw [pcs_eq, hz]
    simpa using hg
  unfold lexTokens
  rw [hE, if_pos rfl, hp, tokRes_all _ [] (tkP_err l [] 0 hl) (by rw [tkP_length]; simpa using hn)]
  rfl

/-- Are tokens the same but for places? -/
def sameB (l : List Tk) (m : List Piece) : Bool := decide (l.map (fun x => (x.kind, x.text)) = m.map (fun p => (p.kind, p.text)))

theorem tkP_same : ∀ (l m : List Tk) (k : Nat), l.map (fun x => (x.kind, x.text)) = (tkP k l m).map (fun p => (p.kind, p.text))
  | [], _, _ => rfl
  | x :: r, m, k => by
    rw [tkP, List.map_cons, List.map_cons, ← tkP_same r m]

theorem tkP_rise : ∀ (l m : List Tk) (k : Nat), (∀ x ∈ l, 0 < x.text.size) → ∀ (i : Nat) (p q : Piece), (tkP k l m)[i]? = some p → (tkP k l m)[i + 1]? = some q → p.at_ < q.at_
  | [], _, _, _, i, p, q, h, _ => by simp [tkP] at h
  | [x], m, k, _, i, p, q, _, h => by simp [tkP] at h
  | x :: y :: r, m, k, hl, 0, p, q, h1, h2 => by
    have := hl x (.head _)
    simp only [tkP, List.getElem?_cons_zero, Option.some.injEq, Nat.zero_add, List.getElem?_cons_succ] at h1 h2
    subst h1 h2
    simp only []
    omega
  | x :: y :: r, m, k, hl, i + 1, p, q, h1, h2 => by
    rw [tkP, List.getElem?_cons_succ] at h1 h2
    exact tkP_rise (y :: r) m _ (fun z hz => hl z (.tail _ hz)) i p q h1 h2

/-- Where a blank stands in the shortest text. -/
theorem blank_at : ∀ (l : List Tk) (i : Nat), (∀ x ∈ l, rightT x = true) → (rend (segsX l []) [])[i]? = some 32 →
    ∃ l1 x y l2, l = l1 ++ x :: y :: l2 ∧ glue x y = true ∧ i = segLen (segsX l1 (x :: y :: l2)) + x.text.data.toList.length
  | [], i, _, h => by simp [segsX, rend] at h
  | x :: r, i, hl, h => by
    rw [segsX, rend, List.append_nil] at h
    have hr : ∀ y ∈ r, rightT y = true := fun y hy => hl y (.tail _ hy)
    by_cases h1 : i < x.text.data.toList.length
    · rw [List.getElem?_append_left h1] at h
      have := (right_bytes (hl x (.head _)) 32 (List.mem_of_getElem? h)).2
      exact absurd this (by decide)
    · rw [List.getElem?_append_right (by omega)] at h
      by_cases h2 : i - x.text.data.toList.length < (gapTo x r).length
      · cases r with
        | nil => simp [gapTo] at h2
        | cons y r =>
          unfold gapTo at h2
          simp only [] at h2
          by_cases hg : glue x y = true
          · rw [if_pos hg] at h2
            refine ⟨[], x, y, r, rfl, hg, ?_⟩
            simp only [List.length_cons, List.length_nil] at h2
            simp only [segsX, segLen]
            omega
          · rw [if_neg hg] at h2
            simp at h2
      · rw [List.getElem?_append_right (by omega)] at h
        obtain ⟨l1, a, b, l2, e1, e2, e3⟩ := blank_at r _ hr h
        refine ⟨x :: l1, a, b, l2, by rw [e1]; rfl, e2, ?_⟩
        rw [segsX, segLen, ← e1]
        omega

theorem kind_note {r : ByteArray} (h : (kindP r).1 = 5) : cls (r[0]!).toNat = 6 := by
  unfold kindP at h
  split at h
  · split at h
    · exact absurd h (by decide)
    · split at h <;> exact absurd h (by decide)
  · split at h
    · exact absurd (show (2 : Int) = 5 from h) (by decide)
    · split at h
      · exact absurd h (by decide)
      · split at h
        · assumption
        · exact absurd h (by decide)

theorem pcOf_no_note {k : Nat} {c : UInt8} {q : List UInt8} (h : cls c.toNat ≠ 6) : isNote (pcOf k (c :: q)) = false ∧ (pcOf k (c :: q)).text = ⟨(c :: q).toArray⟩ := by
  have h5 : (kindP ⟨(c :: q).toArray⟩).1 ≠ 5 := by
    intro e
    have := kind_note e
    rw [getBang _ 0 (by simp [ByteArray.size])] at this
    exact h this
  unfold pcOf isNote
  exact ⟨by simpa using h5, if_neg h5⟩

/-- Without a blank the tokens are others. -/
theorem no_blank {l : List Tk} (hl : ∀ x ∈ l, rightT x = true) {i : Nat} (hi : (tgtAt l l.length)[i]? = some 32) {u : ByteArray} (hu : u.data.toList = (tgtAt l l.length).take i ++ (tgtAt l l.length).drop (i + 1)) (he : (lexTokens u).2.2 = 0) :
    sameB l (lexTokens u).1 = false := by
  rw [tgt_segs] at hi hu
  obtain ⟨l1, x, y, l2, rfl, hg, rfl⟩ := blank_at l i hl hi
  have hl1 : ∀ z ∈ l1, rightT z = true := fun z hz => hl z (List.mem_append_left _ hz)
  have hx : rightT x = true := hl x (List.mem_append_right _ (.head _))
  have hy : rightT y = true := hl y (List.mem_append_right _ (.tail _ (.head _)))
  obtain ⟨c, q, hc, _⟩ := right_head hy
  have hB : rend (segsX (y :: l2) []) [] = c :: (q ++ (gapTo y l2 ++ rend (segsX l2 []) [])) := by rw [segsX, rend, hc, List.append_nil]; rfl
  have hT : rend (segsX (l1 ++ x :: y :: l2) []) [] = rend (segsX l1 (x :: y :: l2)) (x.text.data.toList ++ 32 :: rend (segsX (y :: l2) []) []) := by
    rw [segsX_append, List.append_nil, segsX, rend]
    simp only [List.append_nil, gapTo, if_pos hg, List.cons_append, List.nil_append]
  have hsplit : ∀ R : List UInt8, rend (segsX l1 (x :: y :: l2)) R = rend (segsX l1 (x :: y :: l2)) [] ++ R := by
    have : ∀ (s : List (List UInt8 × List UInt8)) (R : List UInt8), rend s R = rend s [] ++ R := by
      intro s R
      induction s with
      | nil => rfl
      | cons a s ih =>
        obtain ⟨p, g⟩ := a
        rw [rend, rend, ih]
        simp
    exact this _
  have hlen : (rend (segsX l1 (x :: y :: l2)) []).length = segLen (segsX l1 (x :: y :: l2)) := by rw [rend_length]; rfl
  have hu2 : u.data.toList = rend (segsX l1 (x :: y :: l2)) (x.text.data.toList ++ rend (segsX (y :: l2) []) []) := by
    rw [hu, hT, hsplit, ← List.append_assoc, hsplit (_ ++ rend _ _), ← List.append_assoc]
    have hn : (rend (segsX l1 (x :: y :: l2)) [] ++ x.text.data.toList).length = segLen (segsX l1 (x :: y :: l2)) + x.text.data.toList.length := by rw [List.length_append, hlen]
    rw [← hn, List.take_left' rfl, List.drop_append, List.drop_eq_nil_of_le (by omega), List.nil_append, Nat.add_sub_cancel_left]
    rfl
  have hh : headIs (x :: y :: l2) (x.text.data.toList ++ rend (segsX (y :: l2) []) []) := by
    obtain ⟨a, p, h1, _⟩ := right_head hx
    exact ⟨hx, a, p, p ++ rend (segsX (y :: l2) []) [], h1, by rw [h1]; rfl⟩
  have hp := pcsG_seg [] (segsX l1 (x :: y :: l2)) (x.text.data.toList ++ rend (segsX (y :: l2) []) []) u.size 0 (fun c hc => by cases hc) (good_segs l1 _ _ hl1 hh) (by rw [List.nil_append, ← hu2]; simp)
  rw [List.nil_append, ← hu2, ← pcs_eq, segP_right l1 _ _ hl1] at hp
  have hmore := no_junct hx hy hg hc (q ++ (gapTo y l2 ++ rend (segsX l2 []) []))
  rw [← hB] at hmore
  have hne : x.text.data.toList ++ rend (segsX (y :: l2) []) [] ≠ [] := by rw [hB]; simp
  have hle := peL_le (x.text.data.toList ++ rend (segsX (y :: l2) []) [])
  have husz : u.size = (rend (segsX l1 (x :: y :: l2)) (x.text.data.toList ++ rend (segsX (y :: l2) []) [])).length := by rw [← hu2]; simp
  rw [rend_length] at husz
  obtain ⟨f, hf⟩ : ∃ f, u.size = f + 1 := ⟨u.size - 1, by omega⟩
  rw [hf, pcsL_cons f _ hne] at hp
  rw [tokens_tks he, hp, tks_append]
  obtain ⟨a, p, h1, h2, _, _, _, h6⟩ := right_pc hx
  have ha : cls a.toNat ≠ 6 := by
    rcases h6 with ⟨h, _⟩ | ⟨h, _⟩ | ⟨h, _⟩ <;> (rw [h]; decide)
  obtain ⟨n, hn⟩ : ∃ n, peL (x.text.data.toList ++ rend (segsX (y :: l2) []) []) = n + 1 := ⟨_, (Nat.succ_pred_eq_of_pos (by omega)).symm⟩
  have htk : (x.text.data.toList ++ rend (segsX (y :: l2) []) []).take (peL (x.text.data.toList ++ rend (segsX (y :: l2) []) [])) = a :: (p ++ rend (segsX (y :: l2) []) []).take n := by
    rw [hn, h1, List.cons_append, List.take_succ_cons]
  have htl : (a :: (p ++ rend (segsX (y :: l2) []) []).take n).length = peL (x.text.data.toList ++ rend (segsX (y :: l2) []) []) := by
    rw [← htk, List.length_take]
    omega
  rw [htk]
  obtain ⟨g1, g2⟩ := pcOf_no_note (k := 0 + 0 + segLen (segsX l1 (x :: y :: l2))) (q := (p ++ rend (segsX (y :: l2) []) []).take n) ha
  have ht1 : tks (tkP (0 + ([] : List UInt8).length) l1 (x :: y :: l2)) = tkP (0 + ([] : List UInt8).length) l1 (x :: y :: l2) := filter_all (fun z hz => by rw [(tkP_err l1 _ _ hl1 z hz).1]; rfl)
  unfold sameB
  refine decide_eq_false fun e => ?_
  have e2 := congrArg (fun l => l[l1.length]?) e
  simp only [List.map_append, List.map_cons] at e2
  rw [List.getElem?_append_right (by simp), List.length_map, Nat.sub_self, List.getElem?_cons_zero, ht1, List.getElem?_append_right (by simp [tkP_length]), List.length_map, tkP_length, Nat.sub_self] at e2
  unfold tks at e2
  rw [List.filter_cons, if_pos (by simpa using g1), List.map_cons, List.getElem?_cons_zero] at e2
  simp only [Option.some.injEq, Prod.mk.injEq] at e2
  have e3 := congrArg ByteArray.size e2.2
  have g2' : (pcOf (0 + ([] : List UInt8).length + segLen (segsX l1 (x :: y :: l2))) (a :: (p ++ rend (segsX (y :: l2) []) []).take n)).text = _ := g2
  rw [g2'] at e3
  have e4 : (⟨(a :: (p ++ rend (segsX (y :: l2) []) []).take n).toArray⟩ : ByteArray).size = (a :: (p ++ rend (segsX (y :: l2) []) []).take n).length := by simp [ByteArray.size]
  rw [e4, htl] at e3
  have e5 : x.text.data.toList.length = x.text.size := by simp
  omega
end Go.Proofs.YtjadjmkbjolklaaDoor
