/- A text that is renamed, piece by piece; and renamed back. -/
import Derived.Test.YtjadjmkbjolklaaDoorTgtE
import Derived.Test.YtjadjmkbjolklaaDoorRen
namespace Go.Proofs.YtjadjmkbjolklaaDoor
open Go

/-- A piece in a text in which a name is another one. -/
def swp (O N p : List UInt8) : List UInt8 := if p = O then N else p
def swps (O N : List UInt8) (l : List (List UInt8 × List UInt8)) : List (List UInt8 × List UInt8) := l.map (fun x => (swp O N x.1, x.2))

/-- The bytes of a name. -/
def nameB (O : List UInt8) : Prop := ∃ c q, O = c :: q ∧ cls c.toNat = 2 ∧ ∀ d ∈ O, inCls [2, 3, 4] d = true

theorem right_name {r : ByteArray} (h : isRightP 1 r = true) : nameB r.data.toList := by
  obtain ⟨c, q, e1, e2, _, _, _, e6⟩ := right_pc h
  rcases e6 with ⟨hc, _⟩ | ⟨_, hk⟩ | ⟨_, hk⟩
  · refine ⟨c, q, e1, hc, ?_⟩
    rw [e1] at e2 ⊢
    rw [peL_wordE (.inl hc)] at e2
    exact spL_all _ _ e2
  · exact absurd hk (by decide)
  · exact absurd hk (by decide)

/-- How what follows a piece begins, before and behind. -/
def headR (R R' : List UInt8) : Prop := (R = [] ∧ R' = []) ∨ (∃ d X X', R = d :: X ∧ R' = d :: X') ∨ (∃ d X d' X', R = d :: X ∧ R' = d' :: X' ∧ cls d.toNat = 2 ∧ cls d'.toNat = 2)

theorem headR_swps {O N : List UInt8} (hO : nameB O) (hN : nameB N) (g : List UInt8) (l : List (List UInt8 × List UInt8)) (hl : good l []) : headR (g ++ rend l []) (g ++ rend (swps O N l) []) := by
  cases g with
  | cons d g => exact .inr (.inl ⟨d, _, _, rfl, rfl⟩)
  | nil =>
    cases l with
    | nil => exact .inl ⟨rfl, rfl⟩
    | cons a r =>
      obtain ⟨p, g⟩ := a
      obtain ⟨⟨c, q, rfl, _⟩, _⟩ := hl
      by_cases hp : c :: q = O
      · obtain ⟨d, X, h1, h2, _⟩ := hO
        obtain ⟨d', X', h1', h2', _⟩ := hN
        refine .inr (.inr ⟨d, X ++ (g ++ rend r []), d', X' ++ (g ++ rend (swps O N r) []), ?_, ?_, h2, h2'⟩)
        · show (c :: q) ++ _ = _
          rw [hp, h1]
          rfl
        · show swp O N (c :: q) ++ _ = _
          unfold swp
          rw [if_pos hp, h1']
          rfl
      · refine .inr (.inl ⟨c, q ++ (g ++ rend r []), q ++ (g ++ rend (swps O N r) []), rfl, ?_⟩)
        show swp O N (c :: q) ++ _ = _
        unfold swp
        rw [if_neg hp]
        rfl

theorem peL_elseE {c : UInt8} {q : List UInt8} (h1 : ¬ (cls c.toNat = 2 ∨ cls c.toNat = 4)) (h2 : ¬ cls c.toNat = 6) : peL (c :: q) = if Lib.hasPrefix (c :: q) [58, 61] = true ∨ Lib.hasPrefix (c :: q) [45, 62] = true then 2 else 1 := by
  unfold peL
  simp only []
  rw [if_neg h1, if_neg h2]

theorem peL_noteE {c : UInt8} {q : List UInt8} (h : cls c.toNat = 6) : peL (c :: q) = spL (fun c => c != 10) (c :: q) := by
  unfold peL
  simp only []
  rw [if_neg (by rw [h]; decide), if_pos h]

theorem peL_swap {c : UInt8} {q R R' : List UInt8} (hR : headR R R') (h : peL ((c :: q) ++ R) = (c :: q).length) : peL ((c :: q) ++ R') = (c :: q).length := by
  rcases hR with ⟨rfl, rfl⟩ | ⟨d, X, X', rfl, rfl⟩ | ⟨d, X, d', X', rfl, rfl, hd, hd'⟩
  · exact h
  · rw [← h]
    refine peL_local ((c :: q).length + 1) _ _ ?_ (by omega)
    rw [List.take_append, List.take_append, List.take_of_length_le (by omega), Nat.add_sub_cancel_left]
    rfl
  · have hs := peL_self h
    by_cases hw : cls c.toNat = 2 ∨ cls c.toNat = 4
    · rw [List.cons_append, peL_wordE hw, ← List.cons_append] at h
      rw [peL_wordE hw] at hs
      have := spL_more _ (c :: q) X d (spL_all _ _ hs) (word_word (.inl hd))
      omega
    · by_cases h6 : cls c.toNat = 6
      · rw [List.cons_append, peL_noteE h6, ← List.cons_append] at h
        rw [peL_noteE h6] at hs
        have := spL_more (fun c => c != 10) (c :: q) X d (spL_all _ _ hs) (by
          rw [bne_iff_ne]
          rintro rfl
          revert hd
          decide)
        omega
      · rw [peL_elseE hw h6] at hs
        rw [List.cons_append, peL_elseE hw h6, ← hs]
        cases q with
        | nil =>
          have h1 : ∀ a b : UInt8, cls b.toNat ≠ 2 → ¬ Lib.hasPrefix (c :: ([] ++ d' :: X')) [a, b] = true := by
            intro a b hb e
            rw [hasP2] at e
            obtain ⟨_, r, hr⟩ := e
            simp only [List.nil_append, List.cons.injEq] at hr
            rw [hr.1] at hd'
            exact hb hd'
          have h2 : ∀ a b : UInt8, ¬ Lib.hasPrefix [c] [a, b] = true := by
            intro a b e
            rw [hasP2] at e
            obtain ⟨_, r, hr⟩ := e
            cases hr
          rw [if_neg (fun e => e.elim (h1 58 61 (by decide)) (h1 45 62 (by decide))), if_neg (fun e => e.elim (h2 _ _) (h2 _ _))]
        | cons e q =>
          have hx : ∀ a b : UInt8, Lib.hasPrefix (c :: (e :: q ++ d' :: X')) [a, b] = Lib.hasPrefix (c :: e :: q) [a, b] := by
            intro a b
            simp [Lib.hasPrefix, List.isPrefixOf]
          rw [hx, hx]

theorem good_swps {O N : List UInt8} (hO : nameB O) (hN : nameB N) : ∀ l : List (List UInt8 × List UInt8), good l [] → good (swps O N l) []
  | [], _ => .inl rfl
  | (p, g) :: r, h => by
    obtain ⟨⟨c, q, rfl, hc⟩, hg, hpe, hr⟩ := h
    have ih := good_swps hO hN r hr
    have hR := headR_swps hO hN g r hr
    show good ((swp O N (c :: q), g) :: swps O N r) []
    by_cases hp : c :: q = O
    · have hs : swp O N (c :: q) = N := by unfold swp; rw [if_pos hp]
      rw [hs]
      obtain ⟨d, X, h1, h2, h3⟩ := hO
      obtain ⟨d', X', h1', h2', h3'⟩ := hN
      refine ⟨⟨d', X', h1', by unfold inCls; simp [h2']⟩, hg, ?_, ih⟩
      rw [hp] at hpe
      have hnw : ∀ e Y, g ++ rend r [] = e :: Y → inCls [2, 3, 4] e = false := by
        intro e Y hY
        by_cases hew : inCls [2, 3, 4] e = true
        · rw [hY] at hpe
          have := spL_more _ O Y e h3 hew
          rw [h1] at hpe this
          rw [List.cons_append, peL_wordE (.inl h2), ← List.cons_append] at hpe
          omega
        · simpa using hew
      rw [h1', List.cons_append, peL_wordE (.inl h2'), ← List.cons_append, ← h1']
      refine spL_exact _ _ _ h3' ?_
      rcases hR with ⟨_, e⟩ | ⟨e, Y, Y', hY, hY'⟩ | ⟨e, Y, e', Y', hY, _, he, _⟩
      · exact .inl e
      · exact .inr ⟨e, Y', hY', hnw e Y hY⟩
      · have := hnw e Y hY
        rw [word_word (.inl he)] at this
        cases this
    · have hs : swp O N (c :: q) = c :: q := by unfold swp; rw [if_neg hp]
      rw [hs]
      exact ⟨⟨c, q, rfl, hc⟩, hg, peL_swap hR hpe, ih⟩

/-- What a piece with the bytes of a name is. -/
theorem pc_name {r : ByteArray} (h : isRightP 1 r = true) (k : Nat) : pcOf k r.data.toList = ⟨1, r, k, 0⟩ := pcOf_right (x := ⟨1, r, 0⟩) h k

theorem pc_text {r : ByteArray} {k : Nat} {p : List UInt8} (hn : isNote (pcOf k p) = false) : (pcOf k p).text = r ↔ p = r.data.toList := by
  rw [(pcOf_tok hn).2]
  constructor
  · rintro rfl
    simp
  · rintro rfl
    exact (bytes_eq rfl).symm

theorem pc_at (k k' : Nat) (p : List UInt8) : (pcOf k p).kind = (pcOf k' p).kind ∧ (pcOf k p).text = (pcOf k' p).text ∧ (pcOf k p).err = (pcOf k' p).err ∧ isNote (pcOf k p) = isNote (pcOf k' p) := ⟨rfl, rfl, rfl, rfl⟩

/-- The text in which a name is another one. -/
theorem aft_swps {s old name : ByteArray} (hO : isRightP 1 old = true) : ∀ (l : List (List UInt8 × List UInt8)) (k f : Nat), f ≤ k → k ≤ s.size → s.data.toList.drop k = rend l [] → good l [] →
    aftS s f (renSpls old name (tks (segP k l))) = (s.data.toList.drop f).take (k - f) ++ rend (swps old.data.toList name.data.toList l) []
  | [], k, f, hf, hk, hd, _ => by
    show s.data.toList.drop f = _
    rw [show rend (swps old.data.toList name.data.toList []) [] = [] from rfl, List.append_nil, List.take_of_length_le]
    have := congrArg List.length hd
    rw [List.length_drop] at this
    simp only [rend, List.length_nil] at this
    rw [List.length_drop]
    omega
  | (p, g) :: r, k, f, hf, hk, hd, hg => by
    obtain ⟨⟨c, q, hp, hc⟩, _, _, hr⟩ := hg
    rw [rend] at hd
    have hz := congrArg List.length hd
    rw [List.length_drop, List.length_append, List.length_append] at hz
    have hsz : s.data.toList.length = s.size := by simp
    have hd2 : s.data.toList.drop (k + p.length + g.length) = rend r [] := by
      rw [Nat.add_assoc, ← List.drop_drop, hd, ← List.append_assoc, List.drop_left' (by rw [List.length_append])]
    have hppos : 0 < p.length := by rw [hp]; simp
    have hkk : (s.data.toList.drop f).take (k + p.length + g.length - f) = (s.data.toList.drop f).take (k - f) ++ (p ++ g) := by
      have h1 : s.data.toList.drop f = (s.data.toList.drop f).take (k - f) ++ (p ++ (g ++ rend r [])) := by
        rw [← hd, ← show (s.data.toList.drop f).drop (k - f) = s.data.toList.drop k by rw [List.drop_drop]; congr 1; omega, List.take_append_drop]
      have h2 : ((s.data.toList.drop f).take (k - f)).length = k - f := by rw [List.length_take, List.length_drop]; omega
      conv => lhs; rw [h1]
      rw [← List.append_assoc p, ← List.append_assoc, List.take_left']
      rw [List.length_append, List.length_append, h2]
      omega
    have hrs : rend (swps old.data.toList name.data.toList ((p, g) :: r)) [] = swp old.data.toList name.data.toList p ++ (g ++ rend (swps old.data.toList name.data.toList r) []) := rfl
    rw [hrs, segP]
    by_cases hn : isNote (pcOf k p) = true
    · have hne : p ≠ old.data.toList := by
        rintro rfl
        rw [pc_name hO k] at hn
        exact absurd (show ((1 : Int) == 5) = true from hn) (by decide)
      have ht : tks (pcOf k p :: segP (k + p.length + g.length) r) = tks (segP (k + p.length + g.length) r) := by
        unfold tks
        rw [List.filter_cons, if_neg (by simp [hn])]
      rw [ht, aft_swps hO r _ f (by omega) (by omega) hd2 hr, hkk]
      unfold swp
      rw [if_neg hne]
      simp only [List.append_assoc]
    · have hn' : isNote (pcOf k p) = false := by simpa using hn
      have ht : tks (pcOf k p :: segP (k + p.length + g.length) r) = pcOf k p :: tks (segP (k + p.length + g.length) r) := by
        unfold tks
        rw [List.filter_cons, if_pos (by simp [hn'])]
      rw [ht, renSpls]
      by_cases hpo : p = old.data.toList
      · have hos : old.size = p.length := by rw [hpo]; simp
        rw [if_pos ((pc_text hn').2 hpo), aftS_cons]
        have hat : (pcOf k p).at_ = k := rfl
        rw [hat]
        have e1 : ((k : Int)).toNat = k := Int.toNat_natCast k
        have e2 : ((k : Int) + (old.size : Nat)).toNat = k + p.length := by omega
        dsimp only
        rw [e1, e2, aft_swps hO r (k + p.length + g.length) (k + p.length) (by omega) (by omega) hd2 hr]
        have e3 : (s.data.toList.drop (k + p.length)).take (k + p.length + g.length - (k + p.length)) = g := by
          rw [← List.drop_drop, hd, List.drop_left' rfl, Nat.add_sub_cancel_left, List.take_left' rfl]
        rw [e3]
        unfold swp
        rw [if_pos hpo]
      · rw [if_neg (fun e => hpo ((pc_text hn').1 e)), aft_swps hO r _ f (by omega) (by omega) hd2 hr, hkk]
        unfold swp
        rw [if_neg hpo]
        simp only [List.append_assoc]

theorem tokRes_tks : ∀ (l acc : List Piece), (∀ p ∈ l, isNote p = false → p.err = 0) → acc.length + (tks l).length ≤ 900 → tokRes acc l = (acc ++ tks l, 0, 0)
  | [], acc, _, _ => by
    rw [tokRes]
    simp [tks]
  | p :: r, acc, h, hl => by
    by_cases hn : isNote p = true
    · have ht : tks (p :: r) = tks r := by
        unfold tks
        rw [List.filter_cons, if_neg (by simp [hn])]
      rw [ht] at hl ⊢
      rw [tokRes, if_pos hn, tokRes_tks r acc (fun q hq => h q (.tail _ hq)) hl]
    · have hn' : isNote p = false := by simpa using hn
      have ht : tks (p :: r) = p :: tks r := by
        unfold tks
        rw [List.filter_cons, if_pos (by simp [hn'])]
      rw [ht, List.length_cons] at hl
      rw [ht, tokRes, if_neg hn, if_neg (by simp [h p (.head _) hn']), if_neg (by omega), tokRes_tks r _ (fun q hq => h q (.tail _ hq)) (by simp; omega)]
      simp

/-- The tokens, renamed. -/
theorem tks_swps {old name : ByteArray} (hO : isRightP 1 old = true) (hN : isRightP 1 name = true) : ∀ (l : List (List UInt8 × List UInt8)) (k k' : Nat),
    (tks (segP k' (swps old.data.toList name.data.toList l))).map (fun p => (p.kind, p.text)) = (tks (segP k l)).map (fun p => (p.kind, if p.text = old then name else p.text))
  | [], _, _ => rfl
  | (p, g) :: r, k, k' => by
    have hsw : swps old.data.toList name.data.toList ((p, g) :: r) = (swp old.data.toList name.data.toList p, g) :: swps old.data.toList name.data.toList r := rfl
    rw [hsw, segP, segP]
    have ih := tks_swps hO hN r (k + p.length + g.length) (k' + (swp old.data.toList name.data.toList p).length + g.length)
    by_cases hpo : p = old.data.toList
    · have hs : swp old.data.toList name.data.toList p = name.data.toList := by unfold swp; rw [if_pos hpo]
      rw [hs] at ih ⊢
      have h1 : pcOf k p = ⟨1, old, k, 0⟩ := by rw [hpo]; exact pc_name hO k
      rw [h1, pc_name hN k']
      unfold tks at ih ⊢
      have n1 : ∀ (r : ByteArray) (k : Nat), (!isNote ⟨1, r, k, 0⟩) = true := fun _ _ => rfl
      rw [List.filter_cons, List.filter_cons, if_pos (n1 _ _), if_pos (n1 _ _), List.map_cons, List.map_cons, ih]
      simp
    · have hs : swp old.data.toList name.data.toList p = p := by unfold swp; rw [if_neg hpo]
      rw [hs] at ih ⊢
      obtain ⟨a1, a2, a3, a4⟩ := pc_at k' k p
      by_cases hn : isNote (pcOf k p) = true
      · unfold tks at ih ⊢
        rw [List.filter_cons, List.filter_cons, if_neg (by rw [a4, hn]; decide), if_neg (by rw [hn]; decide), ih]
      · have hn' : isNote (pcOf k p) = false := by simpa using hn
        unfold tks at ih ⊢
        rw [List.filter_cons, List.filter_cons, if_pos (by rw [a4, hn']; rfl), if_pos (by rw [hn']; rfl), List.map_cons, List.map_cons, ih, a1, a2, if_neg (fun e => hpo ((pc_text hn').1 e))]

theorem err_swps {old name : ByteArray} (hN : isRightP 1 name = true) : ∀ (l : List (List UInt8 × List UInt8)) (k k' : Nat), (∀ p ∈ segP k l, isNote p = false → p.err = 0) → ∀ p ∈ segP k' (swps old.data.toList name.data.toList l), isNote p = false → p.err = 0
  | [], _, _, _, p, h, _ => by cases h
  | (x, g) :: r, k, k', hl, p, h, hn => by
    have hsw : swps old.data.toList name.data.toList ((x, g) :: r) = (swp old.data.toList name.data.toList x, g) :: swps old.data.toList name.data.toList r := rfl
    rw [hsw, segP] at h
    rw [segP] at hl
    rcases List.mem_cons.1 h with rfl | h
    · by_cases hpo : x = old.data.toList
      · have hs : swp old.data.toList name.data.toList x = name.data.toList := by unfold swp; rw [if_pos hpo]
        rw [hs, pc_name hN k']
      · have hs : swp old.data.toList name.data.toList x = x := by unfold swp; rw [if_neg hpo]
        rw [hs] at hn ⊢
        exact hl (pcOf k x) (.head _) hn
    · exact err_swps hN r _ _ (fun q hq => hl q (.tail _ hq)) p h hn

theorem txt_swps {O N : List UInt8} (hN : ∀ c ∈ N, inCls [1, 2, 3, 4, 5, 6, 7] c = true) : ∀ l : List (List UInt8 × List UInt8), (∀ c ∈ rend l [], inCls [1, 2, 3, 4, 5, 6, 7] c = true) → ∀ c ∈ rend (swps O N l) [], inCls [1, 2, 3, 4, 5, 6, 7] c = true
  | [], _, c, h => by cases h
  | (p, g) :: r, hl, c, h => by
    have hsw : rend (swps O N ((p, g) :: r)) [] = swp O N p ++ (g ++ rend (swps O N r) []) := rfl
    rw [hsw] at h
    rw [rend] at hl
    rcases List.mem_append.1 h with h | h
    · unfold swp at h
      split at h
      · exact hN c h
      · exact hl c (List.mem_append_left _ h)
    · rcases List.mem_append.1 h with h | h
      · exact hl c (List.mem_append_right _ (List.mem_append_left _ h))
      · exact txt_swps hN r (fun d hd => hl d (List.mem_append_right _ (List.mem_append_right _ hd))) c h

theorem swps_back {O N : List UInt8} : ∀ l : List (List UInt8 × List UInt8), (∀ x ∈ l, x.1 ≠ N) → swps N O (swps O N l) = l
  | [], _ => rfl
  | (p, g) :: r, h => by
    have ih := swps_back (O := O) (N := N) r (fun x hx => h x (.tail _ hx))
    have hp := h (p, g) (.head _)
    show (swp N O (swp O N p), g) :: swps N O (swps O N r) = _
    rw [ih]
    unfold swp
    by_cases hpo : p = O
    · rw [if_pos hpo, if_pos rfl, hpo]
    · rw [if_neg hpo, if_neg hp]
end Go.Proofs.YtjadjmkbjolklaaDoor
