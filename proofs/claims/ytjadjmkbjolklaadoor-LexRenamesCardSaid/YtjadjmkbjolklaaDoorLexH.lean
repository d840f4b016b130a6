/- lex.pieces: what it hands back stops where it is told to. -/
import Derived.Test.YtjadjmkbjolklaaDoorLexG
namespace Go.Proofs.YtjadjmkbjolklaaDoor
open Go.RowKit Go.Shelf
attribute [local go_sem] Oper.semAt_some

theorem pieces_any (s : ByteArray) (b : Nat) (w : World) :
    Calls Tryd.prog 49 #[.string s, .map (some b)] w fun e w' => e = .returned (.func (.func 84) #[] #[.pointer (some ⟨w.heap.size, 0, none⟩), .pointer (some ⟨w.heap.size + 1, 0, none⟩)]) ∧
      w' = (w.alloc (.cells #[.string s] 9)).alloc (.cells #[.map (some b)] 69) := by
  go_enter Tryd.func49, Tryd.ntmps49
  go_wp2
  go_ret
  exact ⟨rfl, rfl⟩

theorem pieces_stops (n : Nat) (hn : 3 ≤ n) (bs bw bm : Nat) (s : ByteArray) (hs : s.size ≤ 140737488355328) (w : World) (hW : PcsWorld s bs bw bm w) :
    SeqStopsK Fence.wide n Tryd.prog 84 #[.pointer (some ⟨bs, 0, none⟩), .pointer (some ⟨bw, 0, none⟩)] Piece.vals (Keep (pcsBlocks bs bw bm)) (fun xs => xs = pcs s) (fun pre => pre <+: pcs s) (pcs s).length w :=
  fun l J Jx W hb hJa _ hY h0 => pieces1_in n hn l bs bw bm s hs J Jx W hJa hY (hW.below hb) h0

theorem pcsFrom_length (s : ByteArray) : ∀ (f k : Nat), (pcsFrom s f k).length ≤ f
  | 0, _ => Nat.le_refl _
  | f + 1, k => by
    rw [pcsFrom]
    split
    · have := pcsFrom_length s f (pastP (inCls [1]) s (pieceEndP s k))
      simp only [List.length_cons]
      omega
    · simp

theorem pcs_length (s : ByteArray) : (pcs s).length ≤ s.size := pcsFrom_length s _ _

/-- The cells of tokens. -/
def Piece.cells3 (x : Piece) : List Value := [.int .u8 x.kind, .string x.text, .int .i64 x.at_]
def tokCells (l : List Piece) : List Value := l.flatMap Piece.cells3
theorem tokCells_append (l l' : List Piece) : tokCells (l ++ l') = tokCells l ++ tokCells l' := by simp [tokCells]

/-- A slice value that owns tokens. -/
def OwnToks (W : World) (B : Nat) (v : Value) (l : List Piece) : Prop := W.ownsRow B 63 3 v l.length (tokCells l)

def isNote (x : Piece) : Bool := x.kind == 5
def notes (s : ByteArray) : List Piece := (pcs s).filter isNote

theorem info63 : (Tryd.prog.info? 63).map (fun i => (i.zero, i.size, i.bytes)) = some (some (.agg #[.int .u8 0, .string ByteArray.empty, .int .i64 0]), 3, 32) := by kernel_rfl

theorem row_ne {W : World} {B : Nat} {v : Value} {l : List Piece} (h : OwnToks W B v l) {b : Nat} {o : Obj} (hb : W.heap[b]? = some o) (ho : ∀ cs fz, o ≠ .cells cs 63 fz) : some b ≠ v.ownBlock := by
  rcases h.2 with ⟨rfl, _⟩ | ⟨g, cap, cur, rfl, _, hgb, _⟩
  · simp [Value.ownBlock]
  · intro e
    obtain rfl : b = g := by simpa [Value.ownBlock] using e
    rw [hb] at hgb
    injection hgb with e
    exact ho _ _ e

theorem row_ne_lt {W : World} {B : Nat} {v : Value} {l : List Piece} (h : OwnToks W B v l) {b : Nat} (hb : b < B) : some b ≠ v.ownBlock := by
  rcases h.2 with ⟨rfl, _⟩ | ⟨g, cap, cur, rfl, hg, _⟩
  · simp [Value.ownBlock]
  · intro e
    obtain rfl : b = g := by simpa [Value.ownBlock] using e
    omega

theorem KwMap.alloc {w : World} {b : Nat} (h : KwMap w b) (o : Obj) : KwMap (w.alloc o) b := (Below.heap_alloc w o b h.lt).trans h
theorem KwMap.new (w : World) : KwMap (w.alloc (.map (kwArr 30) 30)) w.heap.size := World.alloc_heap_new w _

theorem notes_world (w1 : World) (s : ByteArray) :
    Boxed ((((w1.alloc (.cells #[.slice none 0 0] 23)).alloc (.map (kwArr 30) 30)).alloc (.cells #[.string s] 9)).alloc (.cells #[.map (some (w1.heap.size + 1))] 69)) w1.heap.size 23 (.slice none 0 0) ∧
    KwMap ((((w1.alloc (.cells #[.slice none 0 0] 23)).alloc (.map (kwArr 30) 30)).alloc (.cells #[.string s] 9)).alloc (.cells #[.map (some (w1.heap.size + 1))] 69)) (w1.heap.size + 1) ∧
    Boxed ((((w1.alloc (.cells #[.slice none 0 0] 23)).alloc (.map (kwArr 30) 30)).alloc (.cells #[.string s] 9)).alloc (.cells #[.map (some (w1.heap.size + 1))] 69)) (w1.heap.size + 1 + 1) 9 (.string s) ∧
    Boxed ((((w1.alloc (.cells #[.slice none 0 0] 23)).alloc (.map (kwArr 30) 30)).alloc (.cells #[.string s] 9)).alloc (.cells #[.map (some (w1.heap.size + 1))] 69)) (w1.heap.size + 1 + 1 + 1) 69 (.map (some (w1.heap.size + 1))) ∧
    ((((w1.alloc (.cells #[.slice none 0 0] 23)).alloc (.map (kwArr 30) 30)).alloc (.cells #[.string s] 9)).alloc (.cells #[.map (some (w1.heap.size + 1))] 69)).heap.size = w1.heap.size + 4 := by
  have bM := ((KwMap.new (w1.alloc (.cells #[.slice none 0 0] 23))).alloc (.cells #[.string s] 9)).alloc (.cells #[.map (some (w1.heap.size + 1))] 69)
  have bS := (Boxed.new ((w1.alloc (.cells #[.slice none 0 0] 23)).alloc (.map (kwArr 30) 30)) 9 (.string s)).alloc (.cells #[.map (some (w1.heap.size + 1))] 69)
  have bW := Boxed.new (((w1.alloc (.cells #[.slice none 0 0] 23)).alloc (.map (kwArr 30) 30)).alloc (.cells #[.string s] 9)) 69 (.map (some (w1.heap.size + 1)))
  simp only [World.size_alloc] at bM bS bW
  exact ⟨(((Boxed.new w1 23 (.slice none 0 0)).alloc _).alloc _).alloc _, bM, bS, bW, by simp⟩

theorem cells_new (w : World) (t : TypeId) (cs : List Value) : ∀ j u, cs[j]? = some u → (w.alloc (.cells cs.toArray t)).cell? (Addr.add ⟨w.heap.size, 0, none⟩ j) = some u := by
  intro j u h
  have e : Addr.add ⟨w.heap.size, 0, none⟩ j = ⟨w.heap.size, j, none⟩ := by unfold Addr.add; split <;> simp_all
  rw [e, World.cell?_alloc_at _ _ _ _ rfl]
  simpa using h

theorem keep_app {K : List Nat} {W w2 : World} {tmp : Obj} {row : Option Nat} {L : Nat} {u : Value} (hgrow : (W.alloc tmp).grownBy w2 row) (hne : ∀ k ∈ K, some k ≠ row) (hlt : ∀ k ∈ K, k < W.heap.size) (hL : ∀ k ∈ K, k ≠ L) :
    Keep K W (w2.setCell ⟨L, 0, none⟩ u) := by
  refine ⟨?_, fun k hk => ?_⟩
  · have := hgrow.size
    simp [World.setCell] at this ⊢
    omega
  · rw [Below.heap_setCell _ _ _ _ (hL k hk), hgrow.block k (by have := hlt k hk; simp; omega) (hne k hk)]
    exact Below.heap_alloc _ _ _ (hlt k hk)

theorem pcs_ne {s : ByteArray} {bs bw bm n₀ : Nat} {W0 W : World} {v : Value} {n : Nat} {xs : List Value} (hk : Keep (pcsBlocks bs bw bm) W0 W) (h : W.ownsRow n₀ 63 3 v n xs)
    (bS : Boxed W0 bs 9 (.string s)) (bW : Boxed W0 bw 69 (.map (some bm))) (bM : KwMap W0 bm) (hg : 2 < n₀ ∧ 1 < n₀) :
    ∀ k ∈ pcsBlocks bs bw bm, some k ≠ v.ownBlock := by
  intro k hkm
  have hb := hk.2 k hkm
  rcases h.2 with ⟨rfl, _⟩ | ⟨g, cap, cur, rfl, hgb, hgc, _⟩
  · simp [Value.ownBlock]
  · intro e
    obtain rfl : k = g := by simpa [Value.ownBlock] using e
    rw [hb] at hgc
    simp only [pcsBlocks, List.mem_cons, List.not_mem_nil, or_false] at hkm
    rcases hkm with rfl | rfl | rfl | rfl | rfl
    · have := bS.symm.trans hgc; simp at this
    · have := bW.symm.trans hgc; simp at this
    · have := bM.symm.trans hgc; simp at this
    · omega
    · omega

theorem textErr_ok {s : ByteArray} (h : (textErr s).2 = 0) : s.size ≤ 2500 := by
  unfold textErr at h
  split at h
  · cases h
  · omega

theorem keep_putObj {K : List Nat} {B : Nat} (hK : ∀ k ∈ K, k < B) (W : World) (l : Nat) (o o' : Obj) (hl : B ≤ l) (_ : W.heap[l]? = some o) (_ : o.isCells = false) (_ : o.isWalk = false) : Keep K W (W.putObj l o') :=
  ⟨by simp, fun k hk => World.putObj_heap_other (by have := hK k hk; omega)⟩

theorem ownFrom_keep {β : Type} {K : List Nat} {B : Nat} {W0 : World} (hK : ∀ k ∈ K, k < B) (hB : ∀ k ∈ K, k < W0.heap.size) : OwnFrom B (fun (_ : β) W => Keep K W0 W) := by
  intro s W W' row hs hg hr
  refine hs.trans ⟨hg.size, fun k hk => hg.block k (Nat.lt_of_lt_of_le (hB k hk) hs.1) ?_⟩
  intro e
  have := (hr k e.symm).1
  have := hK k hk
  omega

set_option maxRecDepth 100000 in
set_option maxHeartbeats 2000000 in
theorem notes_any (s : ByteArray) (w : World) (hs : s.size ≤ 140737488355328) (hv : NumVars w) :
    Calls Tryd.prog 20 #[.string s] w fun e w' => ∃ v, e = .returned (.tuple #[v, .int .i64 (textErr s).2]) ∧ Below w.heap.size w w' ∧ OwnToks w' w.heap.size v (if (textErr s).2 = 0 then notes s else []) := by
  have HV := Lib.hid hv
  clear hv
  refine (callsIn_wide (n := 6)).1 ?_
  by_cases he : (textErr s).2 = 0
  · have HE := Lib.hid he
    have heb : ((textErr s).2 != 0) = false := by simpa using he
    clear he
    refine callsIn_of_wp_marks Tryd.func20 rfl trivial ?_ rfl
    simp only [Tryd.ntmps20, List.size_toArray, List.length_cons, List.length_nil, Nat.reduceAdd, Nat.reduceSub, Array.replicate_succ, Array.replicate_zero, List.push_toArray, List.append_toArray, List.nil_append, List.cons_append]
    gi_wp2_with (first
      | (refine ⟨trivial, ?_⟩; gi_at_call 48; refine (callsIn_wide.2 (textError_any s _ (le_max hs))).mono ?_; rintro e w1 ⟨rfl, hb1⟩)
      | (refine ⟨trivial, ?_⟩; gi_at_call 50; refine (callsIn_wide.2 (keywords_any _)).mono ?_; rintro e w' ⟨rfl, rfl⟩)
      | (refine ⟨trivial, ?_⟩; gi_at_call 49; refine (callsIn_wide.2 (pieces_any s _ _)).mono ?_; rintro e w' ⟨rfl, rfl⟩))
    obtain ⟨bL, bM, bS, bW, hsz⟩ := notes_world w1 s
    have hB0 : Below w.heap.size w ((((w1.alloc (.cells #[.slice none 0 0] 23)).alloc (.map (kwArr 30) 30)).alloc (.cells #[.string s] 9)).alloc (.cells #[.map (some (w1.heap.size + 1))] 69)) :=
      ((((hb1.alloc hb1.size _).alloc (by simp; have := hb1.size; omega) _).alloc (by simp; have := hb1.size; omega) _).alloc (by simp; have := hb1.size; omega) _)
    obtain ⟨W0, hW0⟩ : ∃ W0, (((w1.alloc (.cells #[.slice none 0 0] 23)).alloc (.map (kwArr 30) 30)).alloc (.cells #[.string s] 9)).alloc (.cells #[.map (some (w1.heap.size + 1))] 69) = W0 := ⟨_, rfl⟩
    rw [hW0] at bL bM bS bW hsz hB0 ⊢
    clear hW0
    have hP : PcsWorld s (w1.heap.size + 1 + 1) (w1.heap.size + 1 + 1 + 1) (w1.heap.size + 1) W0 :=
      ⟨bS.cell, bW.cell, bM, HV.out.keep hB0, bS.lt, bW.lt⟩
    have h25 : s.size ≤ 2500 := textErr_ok HE.out
    obtain ⟨i0, hi, hz0, hz1, hz2⟩ := info_parts info63
    have hwl := hb1.size
    have hKlt : ∀ k ∈ pcsBlocks (w1.heap.size + 1 + 1) (w1.heap.size + 1 + 1 + 1) (w1.heap.size + 1), k < W0.heap.size := by
      intro k hk; simp [pcsBlocks] at hk; have := HV.out.lt; omega
    have hKL : ∀ k ∈ pcsBlocks (w1.heap.size + 1 + 1) (w1.heap.size + 1 + 1 + 1) (w1.heap.size + 1), k ≠ w1.heap.size := by
      intro k hk; simp [pcsBlocks] at hk; have := HV.out.lt; omega
    refine wpIn_rangeFunc_ownH rfl (by omega) (gf := 84) (lb := #[.pointer (some ⟨w1.heap.size + 1 + 1, 0, none⟩), .pointer (some ⟨w1.heap.size + 1 + 1 + 1, 0, none⟩)]) rfl trivial (enters_of Tryd.func84 (by kernel_rfl) rfl)
      (pieces_stops 5 (by omega) _ _ _ s hs W0 hP) Keep.trans (keep_putObj (by intro k hk; simp [pcsBlocks] at hk; have := HV.out.lt; omega)) (Below.refl _ _) (fun _ => rfl)
      (fun (pre : List Piece) W => (∃ v, Boxed W w1.heap.size 23 v ∧ W.ownsRow w.heap.size 63 3 v (pre.filter isNote).length (tokCells (pre.filter isNote)) ∧ True) ∧ Keep (pcsBlocks (w1.heap.size + 1 + 1) (w1.heap.size + 1 + 1 + 1) (w1.heap.size + 1)) W0 W ∧ Below w.heap.size w W)
      (fun _ _ _ => False)
      (OwnFrom.and (Own.from (holdsRow_own w.heap.size w1.heap.size 23 63 3 (fun (pre : List Piece) => (pre.filter isNote).length) (fun pre => tokCells (pre.filter isNote)) (fun _ _ => True)) _) (OwnFrom.and (ownFrom_keep (by intro k hk; simp [pcsBlocks] at hk; have := HV.out.lt; omega) (by intro k hk; simp [pcsBlocks] at hk; have := HV.out.lt; omega)) (ownFrom_below (Nat.le_refl _) (by omega))))
      (fun _ _ _ _ _ hs _ _ => hs)
      ⟨⟨_, bL, World.ownsRow_nil _ _ _ _, trivial⟩, Keep.refl _ _, hB0⟩
      (fun (x : Piece) a' W => ∃ Bx, W.heap[Bx]? = some (.cells #[.int .u8 x.kind, .string x.text, .int .i64 x.at_] 63 (0, 0)) ∧ a' = { tmps := #[.string s, undef, .slice none 0 0, .int .i64 0, .int .i64 (textErr s).1, .int .i64 (textErr s).2, .pointer (some ⟨w1.heap.size, 0, none⟩), .pointer (some ⟨Bx, 0, none⟩),
        .tuple #[.int .i64 (textErr s).1, .int .i64 (textErr s).2], .string s, .tuple #[.int .i64 (textErr s).1, .int .i64 (textErr s).2], .int .i64 (textErr s).1, .int .i64 (textErr s).2, .int .i64 (textErr s).2, .bool false, undef, .string s, .map (some (w1.heap.size + 1)),
        .func (.func 84) #[] #[.pointer (some ⟨w1.heap.size + 1 + 1, 0, none⟩), .pointer (some ⟨w1.heap.size + 1 + 1 + 1, 0, none⟩)], .agg #[.int .u8 x.kind, .string x.text, .int .i64 x.at_], .int .i64 x.err, undef, undef, undef, undef, undef, undef, undef, undef], defers := [] })
      (fun x a' => by
        rintro _ X Y row ⟨Bx, h1, h2⟩ hg hr
        refine ⟨Bx, (hg.block Bx (Array.getElem?_eq_some_iff.1 h1).1 ?_).trans h1, h2⟩
        intro e
        obtain ⟨_, o, ho, hc⟩ := hr Bx e.symm
        rw [h1] at ho
        cases ho
        cases hc) ?assign ?body ?done ?stop
    case assign =>
      rintro l pre x W K hI hK
      dsimp only [Piece.vals]
      gi_wp2
      obtain ⟨⟨v, hv, hrow, _⟩, hkp, hB⟩ := hI
      exact hK _ _ ((KeepsOthers.alloc _ _).from _) (Keep.of_below ((Below.refl _ _).alloc (Nat.le_refl _) _) (fun k hk => Nat.lt_of_lt_of_le (hKlt k hk) hkp.1)) ⟨⟨v, hv.alloc _, hrow.alloc _, trivial⟩, hkp.trans (Keep.of_below ((Below.refl _ _).alloc (Nat.le_refl _) _) (fun k hk => Nat.lt_of_lt_of_le (hKlt k hk) hkp.1)), hB.alloc hB.size _⟩ ⟨W.heap.size, World.alloc_heap_new W _, rfl⟩
    case body =>
      rintro l pre x a' W hl ⟨r, hr⟩ ⟨⟨v, hv, hrow, _⟩, hkp, hB⟩ ⟨Bx, hBx, rfl⟩ hlt
      have hc := hv.cell
      have hx0 : W.cell? ⟨Bx, 0, none⟩ = some (.int .u8 x.kind) := cell_of_row W Bx 0 _ 63 (0, 0) hBx
      have hx1 : W.cell? ⟨Bx, 1, none⟩ = some (.string x.text) := cell_of_row W Bx 1 _ 63 (0, 0) hBx
      have hx2 : W.cell? ⟨Bx, 2, none⟩ = some (.int .i64 x.at_) := cell_of_row W Bx 2 _ 63 (0, 0) hBx
      have hpl : (pre.filter isNote).length ≤ pre.length := List.length_filter_le _ _
      have hpn := pcs_length s
      have hne := Lib.hid (pcs_ne hkp hrow bS bW bM HV.out.lt)
      have hkl := Lib.hid (fun k hk => Nat.lt_of_lt_of_le (hKlt k hk) hkp.1)
      by_cases hk5 : isNote x = true
      · have HK := Lib.hid hk5
        have hk5' : (x.kind == 5) = true := hk5
        clear hk5
        gi_wp2_with (gi_at_builtin; refine wpListIn_append_own _ rfl _ _ 23 rfl w.heap.size 63 i0 _ 3 32 Tryd.underlying23 hi hz0 hz1 hz2 rfl (by decide) _ _ _ rfl (hrow.alloc _) ⟨W.heap.size, 0, none⟩ 1 1 [.int .u8 x.kind, .string x.text, .int .i64 x.at_] rfl rfl (cells_new _ _ _) (by simp [Value.oneCell']) (by unfold maxLen; omega) (by omega) (by have := hB.size; simp; omega) ?_; intro v' w2 hown' hgrow _; obtain ⟨g', cap', rfl⟩ := ownsRow_succ hown'; obtain ⟨hv1, hv2, hr2, hk2, hb2⟩ := hv.appended (by decide) hrow hB.size hwl hown' hgrow; have hc1 := hv1.cell; have hf1 := hv1.frozen)
        have hkp2 := keep_app (u := .slice (some ⟨g', 0, none⟩) ((pre.filter isNote).length + 1) cap') hgrow hne.out hkl.out hKL
        refine ⟨hk2.from _, hkp2, ⟨_, hv2, ?_, trivial⟩, hkp.trans hkp2, hB.trans hb2⟩
        have e : (pre ++ [x]).filter isNote = pre.filter isNote ++ [x] := by rw [List.filter_append]; simp [HK.out]
        rw [e, tokCells_append, List.length_append]
        exact hr2
      · have HK := Lib.hid hk5
        have hk5' : (x.kind == 5) = false := by simpa [isNote] using hk5
        clear hk5
        gi_wp2
        refine ⟨KeepsFrom.refl _ _, Keep.refl _ _, ⟨v, hv, ?_, trivial⟩, hkp, hB⟩
        have e : (pre ++ [x]).filter isNote = pre.filter isNote := by rw [List.filter_append]; simp [HK.out]
        rw [e]
        exact hrow
    case done =>
      rintro D ys W hD rfl ⟨⟨v, hv, hrow, _⟩, hkp, hB⟩ hK
      have hc := hv.cell
      gi_wp2
      refine ⟨by simp, .inl ⟨_, _, rfl, run_takeDeferred hK, ?_⟩⟩
      exact ⟨_, results_tmp2 rfl _ _ _, v, rfl, hB.trans (belowK_b (w := w) (Nat.le_refl _) W D _ _ (by omega) hK rfl rfl), ownsRow_putObj hrow _ hK rfl⟩
    case stop =>
      rintro D c pre W _ _ h _
      exact h.elim
  · have HE := Lib.hid he
    have heb : ((textErr s).2 != 0) = true := by simpa using he
    clear he
    refine callsIn_wide.2 ?_
    go_enter Tryd.func20, Tryd.ntmps20
    go_wp2_with (go_at_call 48; refine (textError_any s _ (le_max hs)).mono ?_; rintro e w1 ⟨rfl, hb1⟩)
    go_ret2
    exact ⟨_, rfl, hb1, World.ownsRow_nil _ _ _ _⟩
end Go.Proofs.YtjadjmkbjolklaaDoor
