/- What stays of pieces when a text is changed: those that end before the change, and those behind a line feed. -/
import Derived.Test.YtjadjmkbjolklaaDoorSegA
namespace Go.Proofs.YtjadjmkbjolklaaDoor
open Go

theorem pcsL_at : ∀ (f k : Nat) (L : List UInt8), ∀ x ∈ pcsL f k L, k ≤ x.at_
  | 0, _, _, x, h => by cases h
  | f + 1, k, L, x, h => by
    by_cases hne : L = []
    · subst hne
      rw [pcsL_nil] at h
      cases h
    · rw [pcsL_cons f k hne] at h
      rcases List.mem_cons.1 h with rfl | h
      · exact Nat.le_refl _
      · have := pcsL_at f _ _ x h
        omega

theorem pcsG_at (f k : Nat) (L : List UInt8) : ∀ x ∈ pcsG f k L, k ≤ x.at_ := fun x h => by
  have := pcsL_at f _ _ x h
  omega

theorem pcOf_size {k : Nat} {p : List UInt8} (h : isNote (pcOf k p) = false) : (pcOf k p).text.size = p.length := by
  have hk : (kindP ⟨p.toArray⟩).1 ≠ 5 := by
    intro e
    unfold isNote pcOf at h
    simp [e] at h
  unfold pcOf
  simp only [if_neg hk]
  simp [ByteArray.size]

/-- Pieces that end before what is different. -/
theorem pcsL_head : ∀ (f f' k : Nat) (L M : List UInt8) (r : Nat), L.take r = M.take r → r ≤ L.length → r ≤ M.length → L.length ≤ f → M.length ≤ f' →
    ∃ C R1 R2, pcsL f k L = C ++ R1 ∧ pcsL f' k M = C ++ R2 ∧ ∀ x ∈ R1, isNote x = false → k + r ≤ x.at_ + x.text.size
  | 0, f', k, L, M, r, h, h1, h2, hf, hf' => ⟨[], [], pcsL f' k M, rfl, rfl, fun x hx => by cases hx⟩
  | f + 1, 0, k, L, M, r, h, h1, h2, hf, hf' => by
    obtain rfl : r = 0 := by omega
    exact ⟨[], pcsL (f + 1) k L, [], rfl, rfl, fun x hx _ => by have := pcsL_at _ _ _ x hx; omega⟩
  | f + 1, f' + 1, k, L, M, r, h, h1, h2, hf, hf' => by
    by_cases hne : L = []
    · subst hne
      exact ⟨[], [], pcsL (f' + 1) k M, by rw [pcsL_nil]; rfl, rfl, fun x hx => by cases hx⟩
    · by_cases hn : peL L < r
      · have hpe := peL_local r L M h hn
        have hneM : M ≠ [] := by
          rintro rfl
          simp at h2
          omega
        have hp0 := peL_pos hne
        have htk : L.take (peL L) = M.take (peL L) := by
          have := congrArg (List.take (peL L)) h
          rwa [List.take_take, List.take_take, Nat.min_eq_left (by omega)] at this
        have hdr : (L.drop (peL L)).take (r - peL L) = (M.drop (peL L)).take (r - peL L) := by
          have := congrArg (List.drop (peL L)) h
          rwa [List.drop_take, List.drop_take] at this
        rw [pcsL_cons f k hne, pcsL_cons f' k hneM, hpe, ← htk]
        by_cases hg : spL (inCls [1]) (L.drop (peL L)) < r - peL L
        · have hge := spL_local (inCls [1]) _ _ _ hdr hg
          rw [pcsG, pcsG, hge]
          have hdr2 : ((L.drop (peL L)).drop (spL (inCls [1]) (L.drop (peL L)))).take (r - peL L - spL (inCls [1]) (L.drop (peL L))) = ((M.drop (peL L)).drop (spL (inCls [1]) (L.drop (peL L)))).take (r - peL L - spL (inCls [1]) (L.drop (peL L))) := by
            have := congrArg (List.drop (spL (inCls [1]) (L.drop (peL L)))) hdr
            rwa [List.drop_take, List.drop_take] at this
          obtain ⟨C, R1, R2, e1, e2, e3⟩ := pcsL_head f f' (k + peL L + spL (inCls [1]) (L.drop (peL L))) _ _ _ hdr2 (by simp; omega) (by simp; omega) (by simp; omega) (by simp; omega)
          exact ⟨pcOf k (L.take (peL L)) :: C, R1, R2, by rw [e1]; rfl, by rw [e2]; rfl, fun x hx hn => by have := e3 x hx hn; omega⟩
        · refine ⟨[pcOf k (L.take (peL L))], _, _, rfl, rfl, fun x hx _ => ?_⟩
          have := pcsL_at _ _ _ x hx
          omega
      · refine ⟨[], _, _, rfl, rfl, fun x hx hnt => ?_⟩
        rw [pcsL_cons f k hne] at hx
        rcases List.mem_cons.1 hx with rfl | hx
        · rw [pcOf_size hnt, List.length_take, Nat.min_eq_left (peL_le L)]
          have : (pcOf k (List.take (peL L) L)).at_ = k := rfl
          omega
        · have := pcsG_at _ _ _ x hx
          omega

theorem pcs_head {s t : ByteArray} {r : Nat} (h : s.data.toList.take r = t.data.toList.take r) (h1 : r ≤ s.size) (h2 : r ≤ t.size) :
    ∃ C R1 R2, pcs s = C ++ R1 ∧ pcs t = C ++ R2 ∧ ∀ x ∈ R1, isNote x = false → r ≤ x.at_ + x.text.size := by
  have z1 : s.data.toList.length = s.size := by simp
  have z2 : t.data.toList.length = t.size := by simp
  rw [pcs_eq, pcs_eq, pcsG, pcsG]
  by_cases hg : spL (inCls [1]) s.data.toList < r
  · have hge := spL_local (inCls [1]) _ _ _ h hg
    rw [hge]
    have hdr : (s.data.toList.drop (spL (inCls [1]) s.data.toList)).take (r - spL (inCls [1]) s.data.toList) = (t.data.toList.drop (spL (inCls [1]) s.data.toList)).take (r - spL (inCls [1]) s.data.toList) := by
      have := congrArg (List.drop (spL (inCls [1]) s.data.toList)) h
      rwa [List.drop_take, List.drop_take] at this
    obtain ⟨C, R1, R2, e1, e2, e3⟩ := pcsL_head s.size t.size (0 + spL (inCls [1]) s.data.toList) _ _ _ hdr (by rw [List.length_drop]; omega) (by rw [List.length_drop]; omega) (by rw [List.length_drop]; omega) (by rw [List.length_drop]; omega)
    exact ⟨C, R1, R2, e1, e2, fun x hx hn => by have := e3 x hx hn; omega⟩
  · refine ⟨[], _, _, rfl, rfl, fun x hx _ => ?_⟩
    have := pcsL_at _ _ _ x hx
    omega

theorem spL_stop (p : UInt8 → Bool) (d : UInt8) (hd : p d = false) : ∀ (A Q : List UInt8), spL p (A ++ d :: Q) ≤ A.length
  | [], Q => by
    unfold spL
    rw [List.nil_append, List.takeWhile_cons_of_neg (by simp [hd])]
    simp
  | c :: A, Q => by
    have := spL_stop p d hd A Q
    unfold spL at this ⊢
    rw [List.cons_append]
    by_cases hc : p c = true
    · rw [List.takeWhile_cons_of_pos hc]
      simp only [List.length_cons]
      omega
    · rw [List.takeWhile_cons_of_neg hc]
      simp

theorem lf_word : inCls [2, 3, 4] 10 = false := by decide
theorem lf_gap : inCls [1] 10 = true := by decide

theorem peL_lf {A : List UInt8} (Q : List UInt8) (hA : A ≠ []) : peL (A ++ 10 :: Q) ≤ A.length := by
  match A, hA with
  | c :: A, _ =>
    have hw := spL_stop (inCls [2, 3, 4]) 10 lf_word (c :: A) Q
    have hn := spL_stop (fun c => c != 10) 10 (by decide) (c :: A) Q
    rw [List.cons_append] at hw hn ⊢
    unfold peL
    simp only []
    split
    · exact hw
    · split
      · exact hn
      · split
        · rename_i h
          cases A with
          | nil => simp [Lib.hasPrefix, List.isPrefixOf] at h
          | cons d A => simp
        · simp

theorem spL_gap_all : ∀ (P Q : List UInt8), spL (inCls [1]) P = P.length → spL (inCls [1]) (P ++ 10 :: Q) = P.length + 1 + spL (inCls [1]) Q
  | [], Q, _ => by
    unfold spL
    rw [List.nil_append, List.takeWhile_cons_of_pos lf_gap]
    simp
    omega
  | c :: P, Q, h => by
    unfold spL at h ⊢
    by_cases hc : inCls [1] c = true
    · rw [List.takeWhile_cons_of_pos hc] at h
      have := spL_gap_all P Q (by unfold spL; simpa using h)
      unfold spL at this
      rw [List.cons_append, List.takeWhile_cons_of_pos hc, List.length_cons, this]
      simp only [List.length_cons]
      omega
    · rw [List.takeWhile_cons_of_neg hc] at h
      simp at h

theorem spL_gap_some : ∀ (P Q : List UInt8), spL (inCls [1]) P < P.length → spL (inCls [1]) (P ++ Q) = spL (inCls [1]) P
  | [], Q, h => by simp at h
  | c :: P, Q, h => by
    unfold spL at h ⊢
    rw [List.cons_append]
    by_cases hc : inCls [1] c = true
    · rw [List.takeWhile_cons_of_pos hc] at h ⊢
      rw [List.takeWhile_cons_of_pos hc]
      have := spL_gap_some P Q (by unfold spL; simpa using h)
      unfold spL at this
      simp only [List.length_cons, this]
    · rw [List.takeWhile_cons_of_neg hc, List.takeWhile_cons_of_neg hc]

/-- A line feed stands between pieces. -/
theorem pcsG_lf : ∀ (n : Nat) (P Q : List UInt8) (f k : Nat), P.length ≤ n → (P ++ 10 :: Q).length ≤ f → ∃ C, pcsG f k (P ++ 10 :: Q) = C ++ pcsG f (k + P.length + 1) Q ∧ ∀ x ∈ C, x.at_ < k + P.length := by
  intro n
  induction n with
  | zero =>
    intro P Q f k hP hf
    obtain rfl : P = [] := List.eq_nil_of_length_eq_zero (by omega)
    refine ⟨[], ?_, fun x hx => by cases hx⟩
    rw [pcsG, pcsG, spL_gap_all [] Q rfl, List.nil_append, List.nil_append]
    have : List.drop (([] : List UInt8).length + 1 + spL (inCls [1]) Q) (10 :: Q) = List.drop (spL (inCls [1]) Q) Q := by
      rw [List.length_nil, Nat.zero_add, Nat.add_comm, List.drop_succ_cons]
    rw [this]
    congr 1
    simp only [List.length_nil]
    omega
  | succ n ih =>
    intro P Q f k hP hf
    have hle := spL_le (inCls [1]) P
    by_cases hall : spL (inCls [1]) P = P.length
    · refine ⟨[], ?_, fun x hx => by cases hx⟩
      rw [pcsG, pcsG, spL_gap_all P Q hall, List.nil_append]
      have : List.drop (P.length + 1 + spL (inCls [1]) Q) (P ++ 10 :: Q) = List.drop (spL (inCls [1]) Q) Q := by
        rw [List.drop_append, List.drop_eq_nil_of_le (by omega), List.nil_append, show P.length + 1 + spL (inCls [1]) Q - P.length = spL (inCls [1]) Q + 1 by omega, List.drop_succ_cons]
      rw [this]
      congr 1
      omega
    · have hlt : spL (inCls [1]) P < P.length := by omega
      have hne : P.drop (spL (inCls [1]) P) ≠ [] := by
        intro e
        have := congrArg List.length e
        simp at this
        omega
      rw [List.length_append, List.length_cons] at hf
      have hd : (P ++ 10 :: Q).drop (spL (inCls [1]) P) = P.drop (spL (inCls [1]) P) ++ 10 :: Q := List.drop_append_of_le_length hle
      have hpl := peL_lf Q hne
      have hp0 : 0 < peL (P.drop (spL (inCls [1]) P) ++ 10 :: Q) := peL_pos (by simp)
      match f, hf with
      | f + 1, hf =>
        rw [pcsG, spL_gap_some P _ hlt, hd, pcsL_cons f _ (by simp), List.drop_append_of_le_length hpl]
        have hlen : (P.drop (spL (inCls [1]) P)).length = P.length - spL (inCls [1]) P := by simp
        obtain ⟨C, e1, e2⟩ := ih ((P.drop (spL (inCls [1]) P)).drop (peL (P.drop (spL (inCls [1]) P) ++ 10 :: Q))) Q f (k + spL (inCls [1]) P + peL (P.drop (spL (inCls [1]) P) ++ 10 :: Q)) (by rw [List.length_drop]; omega) (by rw [List.length_append, List.length_drop, List.length_cons]; omega)
        rw [List.length_drop] at e1 e2
        refine ⟨pcOf (k + spL (inCls [1]) P) ((P.drop (spL (inCls [1]) P) ++ 10 :: Q).take (peL (P.drop (spL (inCls [1]) P) ++ 10 :: Q))) :: C, ?_, fun x hx => ?_⟩
        · rw [e1, List.cons_append, pcsG_fuel f (f + 1) _ Q (by omega) (by omega), show k + spL (inCls [1]) P + peL (P.drop (spL (inCls [1]) P) ++ 10 :: Q) + ((P.drop (spL (inCls [1]) P)).length - peL (P.drop (spL (inCls [1]) P) ++ 10 :: Q)) + 1 = k + P.length + 1 by omega]
        · rcases List.mem_cons.1 hx with rfl | hx
          · show k + spL (inCls [1]) P < _
            omega
          · have := e2 x hx
            omega

theorem pcs_lf (s : ByteArray) (P Q : List UInt8) (h : s.data.toList = P ++ 10 :: Q) : ∃ C, pcs s = C ++ pcsG s.size (P.length + 1) Q ∧ ∀ x ∈ C, x.at_ < P.length := by
  have z1 : s.data.toList.length = s.size := by simp
  obtain ⟨C, e1, e2⟩ := pcsG_lf P.length P Q s.size 0 (Nat.le_refl _) (by rw [← h]; omega)
  rw [Nat.zero_add] at e1 e2
  exact ⟨C, by rw [pcs_eq, h, e1], e2⟩
end Go.Proofs.YtjadjmkbjolklaaDoor
