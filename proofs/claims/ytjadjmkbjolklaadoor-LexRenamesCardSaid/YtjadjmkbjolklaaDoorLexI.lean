/- The contract of lex.Tokens. -/
import Derived.Test.YtjadjmkbjolklaaDoorLexH
namespace Go.Proofs.YtjadjmkbjolklaaDoor
open Go.RowKit Go.Shelf
attribute [local go_sem] Oper.semAt_some

/-- The tokens behind those in acc, till a piece stops it. -/
def tokAcc : List Piece → List Piece → Option (List Piece)
  | acc, [] => some acc
  | acc, p :: r => if isNote p = true then tokAcc acc r else if p.err ≠ 0 ∨ acc.length = 900 then none else tokAcc (acc ++ [p]) r

/-- The tokens, or where an error is, and which. -/
def tokRes : List Piece → List Piece → List Piece × Nat × Int
  | acc, [] => (acc, 0, 0)
  | acc, p :: r => if isNote p = true then tokRes acc r else if p.err ≠ 0 then ([], p.at_, p.err) else if acc.length = 900 then ([], p.at_, 5) else tokRes (acc ++ [p]) r

theorem tokAcc_res : ∀ (l r acc acc' : List Piece), tokAcc acc l = some acc' → tokRes acc (l ++ r) = tokRes acc' r
  | [], r, acc, acc', h => by
    simp only [tokAcc, Option.some.injEq] at h
    rw [h]
    rfl
  | p :: l, r, acc, acc', h => by
    rw [List.cons_append, tokRes]
    rw [tokAcc] at h
    by_cases hn : isNote p = true
    · rw [if_pos hn] at h ⊢
      exact tokAcc_res l r acc acc' h
    · rw [if_neg hn] at h ⊢
      by_cases hs : p.err ≠ 0 ∨ acc.length = 900
      · rw [if_pos hs] at h
        cases h
      · rw [if_neg hs] at h
        rw [if_neg (fun e => hs (.inl e)), if_neg (fun e => hs (.inr e))]
        exact tokAcc_res l r _ acc' h

theorem tokAcc_append : ∀ (l r acc acc' : List Piece), tokAcc acc l = some acc' → tokAcc acc (l ++ r) = tokAcc acc' r
  | [], r, acc, acc', h => by
    simp only [tokAcc, Option.some.injEq] at h
    rw [h]
    rfl
  | p :: l, r, acc, acc', h => by
    rw [List.cons_append, tokAcc]
    rw [tokAcc] at h
    by_cases hn : isNote p = true
    · rw [if_pos hn] at h ⊢
      exact tokAcc_append l r acc acc' h
    · rw [if_neg hn] at h ⊢
      by_cases hs : p.err ≠ 0 ∨ acc.length = 900
      · rw [if_pos hs] at h
        cases h
      · rw [if_neg hs] at h ⊢
        exact tokAcc_append l r _ acc' h

theorem tokAcc_length : ∀ (l acc acc' : List Piece), tokAcc acc l = some acc' → acc'.length ≤ acc.length + l.length
  | [], acc, acc', h => by
    simp only [tokAcc, Option.some.injEq] at h
    rw [h]
    simp
  | p :: l, acc, acc', h => by
    rw [tokAcc] at h
    rw [List.length_cons]
    split at h
    · have := tokAcc_length l acc acc' h
      omega
    · split at h
      · cases h
      · have := tokAcc_length l _ acc' h
        simp at this
        omega

/-- What lex.Tokens returns. -/
def lexTokens (s : ByteArray) : List Piece × Int × Int :=
  if (textErr s).2 = 0 then ((tokRes [] (pcs s)).1, ((tokRes [] (pcs s)).2.1 : Int), (tokRes [] (pcs s)).2.2) else ([], (textErr s).1, (textErr s).2)

theorem results_tok {tmps : Array Value} {W : World} {v : Value} {x y : Int} {B2 B3 B4 : Nat} (h2 : Boxed W B2 23 v) (h3 : Boxed W B3 3 (.int .i64 x)) (h4 : Boxed W B4 24 (.int .i64 y))
    (t2 : tmps[2]?.getD undef = .pointer (some ⟨B2, 0, none⟩)) (t3 : tmps[3]?.getD undef = .pointer (some ⟨B3, 0, none⟩)) (t4 : tmps[4]?.getD undef = .pointer (some ⟨B4, 0, none⟩)) :
    (results Tryd.f18 tmps).run Tryd.prog W = .ok (.tuple #[v, .int .i64 x, .int .i64 y]) W := by
  have c2 := h2.cell
  have c3 := h3.cell
  have c4 := h4.cell
  simp [results, Tryd.results18, t2, t3, t4, go_sem, loadVar, c2, c3, c4]

theorem three_boxes {w w1 : World} (hb : Below (((w.alloc (.cells #[.slice none 0 0] 23)).alloc (.cells #[.int .i64 0] 3)).alloc (.cells #[.int .i64 0] 24)).heap.size (((w.alloc (.cells #[.slice none 0 0] 23)).alloc (.cells #[.int .i64 0] 3)).alloc (.cells #[.int .i64 0] 24)) w1) :
    Boxed w1 w.heap.size 23 (.slice none 0 0) ∧ Boxed w1 (w.heap.size + 1) 3 (.int .i64 0) ∧ Boxed w1 (w.heap.size + 1 + 1) 24 (.int .i64 0) := by
  have b3 := (Boxed.new (w.alloc (.cells #[.slice none 0 0] 23)) 3 (.int .i64 0)).alloc (.cells #[.int .i64 0] 24)
  have b4 := Boxed.new ((w.alloc (.cells #[.slice none 0 0] 23)).alloc (.cells #[.int .i64 0] 3)) 24 (.int .i64 0)
  simp only [World.size_alloc] at b3 b4
  exact ⟨(hb.block _ (by simp; omega)).trans (((Boxed.new w 23 (.slice none 0 0)).alloc _).alloc _), (hb.block _ (by simp)).trans b3, (hb.block _ (by simp)).trans b4⟩

/-- Between two rounds of lex.Tokens. -/
structure TokInv (w W0 : World) (L : Nat) (K : List Nat) (pre : List Piece) (W : World) : Prop where
  row : ∃ acc v, tokAcc [] pre = some acc ∧ Boxed W L 23 v ∧ W.ownsRow w.heap.size 63 3 v acc.length (tokCells acc)
  r2 : Boxed W w.heap.size 23 (.slice none 0 0)
  r3 : Boxed W (w.heap.size + 1) 3 (.int .i64 0)
  r4 : Boxed W (w.heap.size + 1 + 1) 24 (.int .i64 0)
  keep : Keep K W0 W
  below : Below w.heap.size w W

/-- A round of lex.Tokens has told of an error. -/
structure TokStop (w : World) (pre : List Piece) (W : World) : Prop where
  res : ∃ init p acc y, pre = init ++ [p] ∧ tokAcc [] init = some acc ∧ isNote p = false ∧ ((p.err ≠ 0 ∧ y = p.err) ∨ (p.err = 0 ∧ acc.length = 900 ∧ y = 5)) ∧ Boxed W (w.heap.size + 1) 3 (.int .i64 p.at_) ∧ Boxed W (w.heap.size + 1 + 1) 24 (.int .i64 y)
  r2 : Boxed W w.heap.size 23 (.slice none 0 0)
  below : Below w.heap.size w W

theorem box_app {W w2 : World} {tmp : Obj} {B L n₀ k : Nat} {t : TypeId} {v u x : Value} {xs : List Value} (h : Boxed W B t x) (hrow : W.ownsRow n₀ 63 3 v k xs) (hgrow : (W.alloc tmp).grownBy w2 v.ownBlock) (ht : t ≠ 63) (hL : B ≠ L) :
    Boxed (w2.setCell ⟨L, 0, none⟩ u) B t x := ((h.alloc tmp).kept hgrow (h.not_row ht hrow)).other hL u

theorem row_set {W : World} {B n₀ k : Nat} {t : TypeId} {v x : Value} {xs : List Value} (hrow : W.ownsRow n₀ 63 3 v k xs) (h : Boxed W B t x) (ht : t ≠ 63) (u : Value) : (W.setCell ⟨B, 0, none⟩ u).ownsRow n₀ 63 3 v k xs :=
  hrow.kept (grownBy_setCell' W B u) (.inr (h.not_row ht hrow).symm)

theorem slice_of {W : World} {n₀ : Nat} {e : TypeId} {size k : Nat} {v : Value} {xs : List Value} (h : W.ownsRow n₀ e size v k xs) : ∃ A c, v = .slice A k c := by
  rcases h.2 with ⟨rfl, rfl⟩ | ⟨g, cap, _, rfl, _⟩
  · exact ⟨_, _, rfl⟩
  · exact ⟨_, _, rfl⟩

theorem boxed_by {W W' : World} {row : Option Nat} {B : Nat} {t : TypeId} {v : Value} (h : Boxed W B t v) (hg : W.grownBy W' row) (hr : ∀ r, row = some r → ∃ o : Obj, W.heap[r]? = some o ∧ o.isCells = false) : Boxed W' B t v :=
  h.kept hg (fun e' => by obtain ⟨o, ho, hc⟩ := hr B e'.symm; rw [show W.heap[B]? = _ from h] at ho; cases ho; cases hc)

theorem row_by {W W' : World} {row : Option Nat} {n₀ : Nat} {e : TypeId} {size k : Nat} {v : Value} {xs : List Value} (h : W.ownsRow n₀ e size v k xs) (hg : W.grownBy W' row) (hr : ∀ r, row = some r → ∃ o : Obj, W.heap[r]? = some o ∧ o.isCells = false) : W'.ownsRow n₀ e size v k xs := by
  refine h.kept hg ?_
  rcases h.2 with ⟨rfl, _⟩ | ⟨g, cap, cur, rfl, _, hgb, _⟩
  · exact .inl rfl
  · refine .inr fun e' => ?_
    obtain ⟨o, ho, hc⟩ := hr g (by simpa [Value.ownBlock] using e'.symm)
    rw [hgb] at ho; cases ho; cases hc

theorem tokInv_own {w W0 : World} {L B : Nat} {K : List Nat} (hB : W0.heap.size ≤ B) (hw : w.heap.size ≤ B) (hK : ∀ k ∈ K, k < W0.heap.size) : OwnFrom B (fun (pre : List Piece) W => TokInv w W0 L K pre W) := by
  intro pre W W' rw_ h hg hr
  have hr' : ∀ r, rw_ = some r → ∃ o : Obj, W.heap[r]? = some o ∧ o.isCells = false := fun r e => (hr r e).2
  obtain ⟨acc, v, h1, h2, h3⟩ := h.row
  refine ⟨⟨acc, v, h1, boxed_by h2 hg hr', row_by h3 hg hr'⟩, boxed_by h.r2 hg hr', boxed_by h.r3 hg hr', boxed_by h.r4 hg hr', ?_, h.below.grown hg h.below.size (fun k e => by have := (hr k e).1; omega)⟩
  exact ownFrom_keep (β := Unit) (K := K) (B := B) (W0 := W0) (fun k hk => Nat.lt_of_lt_of_le (hK k hk) hB) hK () W W' rw_ h.keep hg hr

theorem TokInv.alloc {w W0 W : World} {L : Nat} {K : List Nat} {pre : List Piece} (h : TokInv w W0 L K pre W) (hK : ∀ k ∈ K, k < W0.heap.size) (o : Obj) : TokInv w W0 L K pre (W.alloc o) := by
  obtain ⟨acc, v, h1, h2, h3⟩ := h.row
  exact ⟨⟨acc, v, h1, h2.alloc _, h3.alloc _⟩, h.r2.alloc _, h.r3.alloc _, h.r4.alloc _, h.keep.trans (Keep.of_below ((Below.refl _ _).alloc (Nat.le_refl _) _) (fun k hk => Nat.lt_of_lt_of_le (hK k hk) h.keep.1)), h.below.alloc h.below.size _⟩

theorem tokStop_own {w : World} {B : Nat} (hw : w.heap.size ≤ B) (c : Code) : OwnFrom B (fun (pre : List Piece) W => c = .ret ∧ TokStop w pre W) := by
  rintro pre W W' rw_ ⟨hc, h⟩ hg hr
  have hr' : ∀ r, rw_ = some r → ∃ o : Obj, W.heap[r]? = some o ∧ o.isCells = false := fun r e => (hr r e).2
  obtain ⟨init, p, acc, y, e1, e2, e3, e4, e5, e6⟩ := h.res
  exact ⟨hc, ⟨init, p, acc, y, e1, e2, e3, e4, boxed_by e5 hg hr', boxed_by e6 hg hr'⟩, boxed_by h.r2 hg hr', h.below.grown hg h.below.size (fun k e => by have := (hr k e).1; omega)⟩

theorem stop_end {w W0 W : World} {L B : Nat} {K : List Nat} {pre acc : List Piece} {x : Piece} {y : Int} (hI : TokInv w W0 L K pre W) (ha : tokAcc [] pre = some acc) (hn : isNote x = false)
    (hy : (x.err ≠ 0 ∧ y = x.err) ∨ (x.err = 0 ∧ acc.length = 900 ∧ y = 5)) :
    KeepsFrom B W (((W.setCell ⟨w.heap.size, 0, none⟩ (.slice none 0 0)).setCell ⟨w.heap.size + 1, 0, none⟩ (.int .i64 x.at_)).setCell ⟨w.heap.size + 1 + 1, 0, none⟩ (.int .i64 y)).drew ∧ Code.ret = .ret ∧
      TokStop w (pre ++ [x]) (((W.setCell ⟨w.heap.size, 0, none⟩ (.slice none 0 0)).setCell ⟨w.heap.size + 1, 0, none⟩ (.int .i64 x.at_)).setCell ⟨w.heap.size + 1 + 1, 0, none⟩ (.int .i64 y)).drew := by
  refine ⟨((((KeepsOthers.setCell _ _ _).trans (KeepsOthers.setCell _ _ _)).trans (KeepsOthers.setCell _ _ _)).trans (KeepsOthers.drew _)).from _, rfl, ⟨⟨pre, x, acc, y, rfl, ha, hn, hy, ?_, ?_⟩, ?_, ?_⟩⟩
  · exact ((hI.r3.other (B' := w.heap.size) (by omega) _).set _).other (B' := w.heap.size + 1 + 1) (by omega) _
  · exact ((hI.r4.other (B' := w.heap.size) (by omega) _).other (B' := w.heap.size + 1) (by omega) _).set _
  · exact ((hI.r2.set _).other (B' := w.heap.size + 1) (by omega) _).other (B' := w.heap.size + 1 + 1) (by omega) _
  · exact (((hI.below.setCell (p := ⟨w.heap.size, 0, none⟩) (Nat.le_refl _) _).setCell (p := ⟨w.heap.size + 1, 0, none⟩) (by simp) _).setCell (p := ⟨w.heap.size + 1 + 1, 0, none⟩) (by simp; omega) _).drew

theorem tokInv_start {w W0 : World} {L : Nat} {K : List Nat} (bL : Boxed W0 L 23 (.slice none 0 0)) (d2 : Boxed W0 w.heap.size 23 (.slice none 0 0)) (d3 : Boxed W0 (w.heap.size + 1) 3 (.int .i64 0)) (d4 : Boxed W0 (w.heap.size + 1 + 1) 24 (.int .i64 0)) (hB : Below w.heap.size w W0) :
    TokInv w W0 L K [] W0 := ⟨⟨[], _, rfl, bL, World.ownsRow_nil _ _ _ _⟩, d2, d3, d4, Keep.refl _ _, hB⟩

set_option maxRecDepth 100000 in
set_option maxHeartbeats 4000000 in
theorem tokens_any (s : ByteArray) (w : World) (hs : s.size ≤ 140737488355328) (hv : NumVars w) :
    Calls Tryd.prog 18 #[.string s] w fun e w' => ∃ v, e = .returned (.tuple #[v, .int .i64 (lexTokens s).2.1, .int .i64 (lexTokens s).2.2]) ∧ Below w.heap.size w w' ∧ OwnToks w' w.heap.size v (lexTokens s).1 := by
  have HV := Lib.hid hv
  clear hv
  refine (callsIn_wide (n := 6)).1 ?_
  by_cases he : (textErr s).2 = 0
  · have HE := Lib.hid he
    have heb : ((textErr s).2 != 0) = false := by simpa using he
    clear he
    refine callsIn_of_wp_marks Tryd.func18 rfl trivial ?_ rfl
    simp only [Tryd.ntmps18, List.size_toArray, List.length_cons, List.length_nil, Nat.reduceAdd, Nat.reduceSub, Array.replicate_succ, Array.replicate_zero, List.push_toArray, List.append_toArray, List.nil_append, List.cons_append]
    gi_wp2_with (first
      | (refine ⟨trivial, ?_⟩; gi_at_call 48; refine (callsIn_wide.2 (textError_any s _ (le_max hs))).mono ?_; rintro e w1 ⟨rfl, hb1⟩)
      | (refine ⟨trivial, ?_⟩; gi_at_call 50; refine (callsIn_wide.2 (keywords_any _)).mono ?_; rintro e w' ⟨rfl, rfl⟩)
      | (refine ⟨trivial, ?_⟩; gi_at_call 49; refine (callsIn_wide.2 (pieces_any s _ _)).mono ?_; rintro e w' ⟨rfl, rfl⟩))
    obtain ⟨b2, b3, b4⟩ := three_boxes hb1
    have hb2 := ((((Below.refl _ w).alloc (Nat.le_refl _) _).alloc (by simp) _).alloc (by simp; omega) _).trans (hb1.mono (by simp; omega))
    have hw1 : w.heap.size + 3 ≤ w1.heap.size := by have := hb1.size; simp at this; omega
    obtain ⟨bL, bM, bS, bW, hsz⟩ := notes_world w1 s
    have hB0 : Below w.heap.size w ((((w1.alloc (.cells #[.slice none 0 0] 23)).alloc (.map (kwArr 30) 30)).alloc (.cells #[.string s] 9)).alloc (.cells #[.map (some (w1.heap.size + 1))] 69)) :=
      (((hb2.alloc (by omega) _).alloc (by simp; omega) _).alloc (by simp; omega) _).alloc (by simp; omega) _
    have d2 := (((b2.alloc (.cells #[.slice none 0 0] 23)).alloc (.map (kwArr 30) 30)).alloc (.cells #[.string s] 9)).alloc (.cells #[.map (some (w1.heap.size + 1))] 69)
    have d3 := (((b3.alloc (.cells #[.slice none 0 0] 23)).alloc (.map (kwArr 30) 30)).alloc (.cells #[.string s] 9)).alloc (.cells #[.map (some (w1.heap.size + 1))] 69)
    have d4 := (((b4.alloc (.cells #[.slice none 0 0] 23)).alloc (.map (kwArr 30) 30)).alloc (.cells #[.string s] 9)).alloc (.cells #[.map (some (w1.heap.size + 1))] 69)
    obtain ⟨W0, hW0⟩ : ∃ W0, ((((w1.alloc (.cells #[.slice none 0 0] 23)).alloc (.map (kwArr 30) 30)).alloc (.cells #[.string s] 9)).alloc (.cells #[.map (some (w1.heap.size + 1))] 69)) = W0 := ⟨_, rfl⟩
    rw [hW0] at bL bM bS bW hsz hB0 d2 d3 d4 ⊢
    clear hW0 b2 b3 b4 hb1
    have hP : PcsWorld s (w1.heap.size + 1 + 1) (w1.heap.size + 1 + 1 + 1) (w1.heap.size + 1) W0 :=
      ⟨bS.cell, bW.cell, bM, HV.out.keep hB0, bS.lt, bW.lt⟩
    have h25 : s.size ≤ 2500 := textErr_ok HE.out
    obtain ⟨i0, hi, hz0, hz1, hz2⟩ := info_parts info63
    have hKlt : ∀ k ∈ (pcsBlocks (w1.heap.size + 1 + 1) (w1.heap.size + 1 + 1 + 1) (w1.heap.size + 1)), k < W0.heap.size := by
      intro k hk; simp [pcsBlocks] at hk; have := HV.out.lt; omega
    have hmx : Tryd.prog.follows .mixedOrders = true := by kernel_rfl
    have hKL : ∀ k ∈ (pcsBlocks (w1.heap.size + 1 + 1) (w1.heap.size + 1 + 1 + 1) (w1.heap.size + 1)), k ≠ w1.heap.size := by
      intro k hk; simp [pcsBlocks] at hk; have := HV.out.lt; omega
    refine wpIn_rangeFunc_ownH rfl (by omega) (gf := 84) (lb := #[.pointer (some ⟨w1.heap.size + 1 + 1, 0, none⟩), .pointer (some ⟨w1.heap.size + 1 + 1 + 1, 0, none⟩)]) rfl trivial (enters_of Tryd.func84 (by kernel_rfl) rfl)
      (pieces_stops 5 (by omega) _ _ _ s hs W0 hP) Keep.trans (keep_putObj (by intro k hk; have := hKlt k hk; omega)) (Below.refl _ _) (fun _ => rfl)
      (fun (pre : List Piece) W => TokInv w W0 w1.heap.size (pcsBlocks (w1.heap.size + 1 + 1) (w1.heap.size + 1 + 1 + 1) (w1.heap.size + 1)) pre W)
      (fun c pre W => c = .ret ∧ TokStop w pre W)
      (tokInv_own (Nat.le_refl _) (by omega) hKlt) (fun c => tokStop_own (by omega) c)
      (tokInv_start bL d2 d3 d4 hB0)
      (fun (x : Piece) a' W => ∃ Bx, W.heap[Bx]? = some (.cells #[.int .u8 x.kind, .string x.text, .int .i64 x.at_] 63 (0, 0)) ∧ a' = { tmps := #[.string s, undef, .pointer (some ⟨w.heap.size, 0, none⟩), .pointer (some ⟨w.heap.size + 1, 0, none⟩), .pointer (some ⟨w.heap.size + 1 + 1, 0, none⟩), .int .i64 (textErr s).1, .int .i64 (textErr s).2, .pointer (some ⟨w1.heap.size, 0, none⟩), .pointer (some ⟨Bx, 0, none⟩), .int .i64 x.err, .tuple #[.int .i64 (textErr s).1, .int .i64 (textErr s).2], .string s, .tuple #[.int .i64 (textErr s).1, .int .i64 (textErr s).2], .int .i64 (textErr s).1, .int .i64 (textErr s).2, .int .i64 (textErr s).2, .bool false, undef, undef, .string s, .map (some (w1.heap.size + 1)), .func (.func 84) #[] #[.pointer (some ⟨w1.heap.size + 1 + 1, 0, none⟩), .pointer (some ⟨w1.heap.size + 1 + 1 + 1, 0, none⟩)], .agg #[.int .u8 x.kind, .string x.text, .int .i64 x.at_], .int .i64 x.err, undef, undef, undef, undef, undef, undef, undef, undef, undef, undef, undef, undef, undef, undef, undef, undef, undef, undef, undef, undef], defers := [] })
      (fun x a' => by
        rintro _ X Y row ⟨Bx, h1, h2⟩ hg hr
        refine ⟨Bx, (hg.block Bx (Array.getElem?_eq_some_iff.1 h1).1 ?_).trans h1, h2⟩
        intro e
        obtain ⟨_, o, ho, hc⟩ := hr Bx e.symm
        rw [h1] at ho
        cases ho
        cases hc) ?assign ?body ?done ?stop
    case assign =>
      rintro l pre x W K hI hK
      dsimp only [Piece.vals]
      gi_wp2
      exact hK _ _ ((KeepsOthers.alloc _ _).from _) (Keep.of_below ((Below.refl _ _).alloc (Nat.le_refl _) _) (fun k hk => Nat.lt_of_lt_of_le (hKlt k hk) hI.keep.1)) (hI.alloc hKlt _) ⟨W.heap.size, World.alloc_heap_new W _, rfl⟩
    case body =>
      rintro l pre x a' W hl ⟨r, hr⟩ hI ⟨Bx, hBx, rfl⟩ hlt
      obtain ⟨acc, v, ha, hv, hrow⟩ := hI.row
      obtain ⟨A, c, rfl⟩ := slice_of hrow
      have hc := hv.cell
      have hx0 : W.cell? ⟨Bx, 0, none⟩ = some (.int .u8 x.kind) := cell_of_row W Bx 0 _ 63 (0, 0) hBx
      have hx1 : W.cell? ⟨Bx, 1, none⟩ = some (.string x.text) := cell_of_row W Bx 1 _ 63 (0, 0) hBx
      have hx2 : W.cell? ⟨Bx, 2, none⟩ = some (.int .i64 x.at_) := cell_of_row W Bx 2 _ 63 (0, 0) hBx
      have hpl : acc.length ≤ pre.length := by have := tokAcc_length pre [] acc ha; simpa using this
      have hpn := pcs_length s
      have hne := Lib.hid (pcs_ne hI.keep hrow bS bW bM HV.out.lt)
      have hkl := Lib.hid (fun k hk => Nat.lt_of_lt_of_le (hKlt k hk) hI.keep.1)
      have HI := Lib.hid hI
      have HA := Lib.hid ha
      have hB := hI.below.size
      clear hI ha
      by_cases hk5 : isNote x = true
      · have HK := Lib.hid hk5
        have hk5' : (x.kind == 5) = true := hk5
        clear hk5
        gi_wp2
        refine ⟨KeepsFrom.refl _ _, Keep.refl _ _, ⟨⟨acc, _, ?_, hv, hrow⟩, HI.out.r2, HI.out.r3, HI.out.r4, HI.out.keep, HI.out.below⟩⟩
        rw [tokAcc_append pre [x] [] acc HA.out]
        simp [tokAcc, HK.out]
      · have HK := Lib.hid ((Bool.not_eq_true _).mp hk5)
        have hk5' : (x.kind == 5) = false := by simpa [isNote] using hk5
        clear hk5
        by_cases he0 : x.err = 0
        · have HE0 := Lib.hid he0
          have he0' : (x.err == 0) = true := by simpa using he0
          clear he0
          by_cases h9 : acc.length = 900
          · have H9 := Lib.hid h9
            have h9' : ((acc.length : Int) == 900) = true := by simp; omega
            clear h9
            have c2 := HI.out.r2.cell
            have c3 := HI.out.r3.cell
            have c4 := HI.out.r4.cell
            have f2 := HI.out.r2.frozen
            have f3 := HI.out.r3.frozen
            have f4 := HI.out.r4.frozen
            gi_wp2
            gi_region_with_o (fail)
            all_goals clear c2 c3 c4 f2 f3 f4 hc hx0 hx1 hx2
            all_goals gi_wp2
            all_goals (try go_bits)
            all_goals exact stop_end HI.out HA.out HK.out (.inr ⟨HE0.out, H9.out, rfl⟩)
          · have H9 := Lib.hid h9
            have h9' : ((acc.length : Int) == 900) = false := by simp; omega
            clear h9
            gi_wp2_with (gi_at_builtin; refine wpListIn_append_own _ rfl _ _ 23 rfl w.heap.size 63 i0 _ 3 32 Tryd.underlying23 hi hz0 hz1 hz2 rfl (by decide) _ _ _ rfl (hrow.alloc _) ⟨W.heap.size, 0, none⟩ 1 1 [.int .u8 x.kind, .string x.text, .int .i64 x.at_] rfl rfl (cells_new _ _ _) (by simp [Value.oneCell']) (by unfold maxLen; omega) (by omega) (by simp; omega) ?_; intro v' w2 hown' hgrow _; obtain ⟨g', cap', rfl⟩ := ownsRow_succ hown'; obtain ⟨hv1, hv2, hr2, hk2, hb2⟩ := hv.appended (by decide) hrow hB (by omega) hown' hgrow; have hc1 := hv1.cell; have hf1 := hv1.frozen)
            have hkp2 := keep_app (u := .slice (some ⟨g', 0, none⟩) (acc.length + 1) cap') hgrow hne.out hkl.out hKL
            have hI := HI.out
            refine ⟨hk2.from _, hkp2, ⟨⟨acc ++ [x], _, ?_, hv2, ?_⟩, ?_, ?_, ?_, hI.keep.trans hkp2, hI.below.trans hb2⟩⟩
            · rw [tokAcc_append pre [x] [] acc HA.out]
              simp [tokAcc, HK.out, HE0.out, H9.out]
            · rw [tokCells_append, List.length_append]
              exact hr2
            · exact box_app hI.r2 hrow hgrow (by decide) (by omega)
            · exact box_app hI.r3 hrow hgrow (by decide) (by omega)
            · exact box_app hI.r4 hrow hgrow (by decide) (by omega)
        · have HE0 := Lib.hid he0
          have he0' : (x.err == 0) = false := by simpa using he0
          have he0'' : (x.err != 0) = true := by simpa using he0
          clear he0
          have c2 := HI.out.r2.cell
          have c3 := HI.out.r3.cell
          have c4 := HI.out.r4.cell
          have f2 := HI.out.r2.frozen
          have f3 := HI.out.r3.frozen
          have f4 := HI.out.r4.frozen
          gi_wp2
          gi_region_with_o (fail)
          all_goals clear c2 c3 c4 f2 f3 f4 hc hx0 hx1 hx2
          all_goals gi_wp2
          all_goals (try go_bits)
          all_goals exact stop_end HI.out HA.out HK.out (.inl ⟨HE0.out, rfl⟩)
    case done =>
      rintro D ys W hD rfl hI hK
      obtain ⟨acc, v, ha, hv, hrow⟩ := hI.row
      obtain ⟨A, c, rfl⟩ := slice_of hrow
      have hc := hv.cell
      have c2 := hI.r2.cell
      have c3 := hI.r3.cell
      have c4 := hI.r4.cell
      have f2 := hI.r2.frozen
      have f3 := hI.r3.frozen
      have f4 := hI.r4.frozen
      have HI := Lib.hid hI
      have HA := Lib.hid ha
      have hB := hI.below.size
      have hv2 := hv
      clear hI ha
      gi_wp2
      have hI := HI.out
      have hk3 := ((KeepsOthers.setCell W ⟨w.heap.size, 0, none⟩ (.slice A acc.length c)).trans (KeepsOthers.setCell _ ⟨w.heap.size + 1, 0, none⟩ (.int .i64 0))).trans (KeepsOthers.setCell _ ⟨w.heap.size + 1 + 1, 0, none⟩ (.int .i64 0))
      have hK3 := hk3.same D _ hK rfl
      have r2 := ((hI.r2.set (.slice A acc.length c)).other (B' := w.heap.size + 1) (by omega) (.int .i64 0)).other (B' := w.heap.size + 1 + 1) (by omega) (.int .i64 0)
      have r3 := ((hI.r3.other (B' := w.heap.size) (by omega) (.slice A acc.length c)).set (.int .i64 0)).other (B' := w.heap.size + 1 + 1) (by omega) (.int .i64 0)
      have r4 := ((hI.r4.other (B' := w.heap.size) (by omega) (.slice A acc.length c)).other (B' := w.heap.size + 1) (by omega) (.int .i64 0)).set (.int .i64 0)
      have rr := row_set (row_set (row_set hrow hI.r2 (by decide) (.slice A acc.length c)) (hI.r3.other (B' := w.heap.size) (by omega) (.slice A acc.length c)) (by decide) (.int .i64 0)) ((hI.r4.other (B' := w.heap.size) (by omega) (.slice A acc.length c)).other (B' := w.heap.size + 1) (by omega) (.int .i64 0)) (by decide) (.int .i64 0)
      have hb3 := ((hI.below.setCell (p := ⟨w.heap.size, 0, none⟩) (Nat.le_refl _) (.slice A acc.length c)).setCell (p := ⟨w.heap.size + 1, 0, none⟩) (by simp) (.int .i64 0)).setCell (p := ⟨w.heap.size + 1 + 1, 0, none⟩) (by simp; omega) (.int .i64 0)
      generalize ((W.setCell ⟨w.heap.size, 0, none⟩ (.slice A acc.length c)).setCell ⟨w.heap.size + 1, 0, none⟩ (.int .i64 0)).setCell ⟨w.heap.size + 1 + 1, 0, none⟩ (.int .i64 0) = W3 at *
      have hput : ∀ r, some D = some r → ∃ o : Obj, W3.heap[r]? = some o ∧ o.isCells = false := fun r e => by cases e; exact ⟨_, hK3, rfl⟩
      refine ⟨by simp, .inl ⟨_, _, rfl, run_takeDeferred hK3, ?_⟩⟩
      refine ⟨_, results_tok (boxed_by r2 (grownBy_putObj' W3 D _) hput) (boxed_by r3 (grownBy_putObj' W3 D _) hput) (boxed_by r4 (grownBy_putObj' W3 D _) hput) rfl rfl rfl, ?_⟩
      have hl : lexTokens s = (acc, (0 : Int), 0) := by
        unfold lexTokens
        have h := tokAcc_res (pcs s) [] [] acc HA.out
        rw [List.append_nil] at h
        rw [if_pos HE.out, h]
        rfl
      rw [hl]
      exact ⟨_, rfl, hb3.trans (belowK_b (w := w) (Nat.le_refl _) W3 D _ _ (by omega) hK3 rfl rfl), ownsRow_putObj rr _ hK3 rfl⟩
    case stop =>
      rintro D c pre W hD hp ⟨rfl, hx⟩ hK
      obtain ⟨init, p, acc, y, rfl, e2, e3, e4, e5, e6⟩ := hx.res
      gi_wp2
      have hput : ∀ r, some D = some r → ∃ o : Obj, W.heap[r]? = some o ∧ o.isCells = false := fun r e => by cases e; exact ⟨_, hK, rfl⟩
      refine ⟨by simp, .inl ⟨_, _, rfl, run_takeDeferred hK, ?_⟩⟩
      refine ⟨_, results_tok (boxed_by hx.r2 (grownBy_putObj' W D _) hput) (boxed_by e5 (grownBy_putObj' W D _) hput) (boxed_by e6 (grownBy_putObj' W D _) hput) rfl rfl rfl, ?_⟩
      have hl : lexTokens s = ([], (p.at_ : Int), y) := by
        obtain ⟨rest, hrest⟩ := hp
        unfold lexTokens
        rw [if_pos HE.out, ← hrest, List.append_assoc, tokAcc_res init _ [] acc e2, List.singleton_append, tokRes, if_neg (by simp [e3])]
        rcases e4 with ⟨h1, h2⟩ | ⟨h1, h2, h3⟩
        · rw [if_pos h1, h2]
        · rw [if_neg (by simp [h1]), if_pos h2, h3]
      rw [hl]
      exact ⟨_, rfl, hx.below.trans (belowK_b (w := w) (Nat.le_refl _) W D _ _ (by omega) hK rfl rfl), World.ownsRow_nil _ _ _ _⟩
  · have HE := Lib.hid he
    have heb : ((textErr s).2 != 0) = true := by simpa using he
    clear he
    refine callsIn_wide.2 ?_
    go_enter Tryd.func18, Tryd.ntmps18
    go_wp2_with (go_at_call 48; refine (textError_any s _ (le_max hs)).mono ?_; rintro e w1 ⟨rfl, hb1⟩; obtain ⟨b2, b3, b4⟩ := three_boxes hb1; have c2 := b2.cell; have c3 := b3.cell; have c4 := b4.cell; have f2 := b2.frozen; have f3 := b3.frozen; have f4 := b4.frozen)
    have r2 := ((b2.set (.slice none 0 0)).other (B' := w.heap.size + 1) (by omega) (.int .i64 (textErr s).1)).other (B' := w.heap.size + 1 + 1) (by omega) (.int .i64 (textErr s).2)
    have r3 := ((b3.other (B' := w.heap.size) (by omega) (.slice none 0 0)).set (.int .i64 (textErr s).1)).other (B' := w.heap.size + 1 + 1) (by omega) (.int .i64 (textErr s).2)
    have r4 := ((b4.other (B' := w.heap.size) (by omega) (.slice none 0 0)).other (B' := w.heap.size + 1) (by omega) (.int .i64 (textErr s).1)).set (.int .i64 (textErr s).2)
    refine bodyPost_ret (results_tok r2 r3 r4 rfl rfl rfl) rfl ?_
    have hl : lexTokens s = ([], (textErr s).1, (textErr s).2) := by unfold lexTokens; rw [if_neg HE.out]
    rw [hl]
    refine ⟨_, rfl, ?_, World.ownsRow_nil _ _ _ _⟩
    have hb := ((((Below.refl _ w).alloc (Nat.le_refl _) _).alloc (by simp) _).alloc (by simp; omega) _).trans (hb1.mono (by simp; omega))
    exact ((hb.setCell (p := ⟨w.heap.size, 0, none⟩) (Nat.le_refl _) _).setCell (p := ⟨w.heap.size + 1, 0, none⟩) (by simp) _).setCell (p := ⟨w.heap.size + 1 + 1, 0, none⟩) (by simp; omega) _
end Go.Proofs.YtjadjmkbjolklaaDoor
