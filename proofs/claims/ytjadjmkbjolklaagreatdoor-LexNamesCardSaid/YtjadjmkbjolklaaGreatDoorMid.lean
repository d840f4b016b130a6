/- The second layer: the lexer of package lex, by its loops over functions, and what it yields. -/
import Derived.RangeFuncNested
import Derived.RangeFuncBound
import Derived.RangeFuncCalls
import Derived.RangeFuncLeaves
import Derived.Shelf.Abstract
import Derived.Shelf.RegionOpen
import Derived.WalkKit
import Derived.OwnWalkIn
import Derived.TacticsInMore
import Derived.LoopNIn
import Derived.LoopIn
import Derived.Deep.RegionWith
import Derived.Test.YtjadjmkbjolklaaGreatDoorBase
namespace Go.Proofs.YtjadjmkbjolklaaGreatDoor
open Go.RowKit Go.Shelf
attribute [local go_sem] Oper.semAt_some

/-- The blocks K are as they were. -/
def Keep (K : List Nat) (W W' : World) : Prop := W.heap.size ≤ W'.heap.size ∧ ∀ k ∈ K, W'.heap[k]? = W.heap[k]?
theorem Keep.refl (K : List Nat) (W : World) : Keep K W W := ⟨Nat.le_refl _, fun _ _ => rfl⟩
theorem Keep.trans {K : List Nat} {A B C : World} (h : Keep K A B) (h' : Keep K B C) : Keep K A C := ⟨Nat.le_trans h.1 h'.1, fun k hk => (h'.2 k hk).trans (h.2 k hk)⟩
theorem Keep.of_below {K : List Nat} {A B : World} (h : Below A.heap.size A B) (hK : ∀ k ∈ K, k < A.heap.size) : Keep K A B := ⟨h.size, fun k hk => h.block k (hK k hk)⟩
theorem Keep.cell {K : List Nat} {A B : World} (h : Keep K A B) {p : Addr} (hp : p.block ∈ K) : B.cell? p = A.cell? p := World.cell?_of_block (w := A) (h.2 p.block hp)

theorem only_of_below {a w : World} (h : Below a.heap.size a w) (row : Option Nat) : a.grownBy w row := ⟨h.os, h.tape, h.output, h.size, fun i hi _ => h.block i hi⟩

def Piece.vals (x : Piece) : Array Value := #[.agg #[.int .u8 x.kind, .string x.text, .int .i64 x.at_], .int .i64 x.err]

/-- What the closure of lex.pieces reads: its text, its map, and the variables of strconv. -/
structure PcsWorld (s : ByteArray) (bs bw bm : Nat) (W : World) : Prop where
  text : W.cell? ⟨bs, 0, none⟩ = some (.string s)
  words : W.cell? ⟨bw, 0, none⟩ = some (.map (some bm))
  map : KwMap W bm
  vars : NumVars W
  ltS : bs < W.heap.size
  ltW : bw < W.heap.size

def pcsBlocks (bs bw bm : Nat) : List Nat := [bs, bw, bm, 2, 1]

theorem PcsWorld.keep {s : ByteArray} {bs bw bm : Nat} {W W' : World} (h : PcsWorld s bs bw bm W) (hk : Keep (pcsBlocks bs bw bm) W W') : PcsWorld s bs bw bm W' where
  text := (hk.cell (p := ⟨bs, 0, none⟩) (by simp [pcsBlocks])).trans h.text
  words := (hk.cell (p := ⟨bw, 0, none⟩) (by simp [pcsBlocks])).trans h.words
  map := (hk.2 bm (by simp [pcsBlocks])).trans h.map
  vars := by
    obtain ⟨⟨t, p, e⟩, ⟨t', p', e'⟩⟩ := h.vars
    refine ⟨⟨t, p, ?_⟩, ⟨t', p', ?_⟩⟩
    · unfold World.var? at e ⊢
      rw [gRange] at e ⊢
      simp only [Option.bind_some] at e ⊢
      rw [hk.2 _ (by simp [pcsBlocks])]
      exact e
    · unfold World.var? at e' ⊢
      rw [gSyntax] at e' ⊢
      simp only [Option.bind_some] at e' ⊢
      rw [hk.2 _ (by simp [pcsBlocks])]
      exact e'
  ltS := Nat.lt_of_lt_of_le h.ltS hk.1
  ltW := Nat.lt_of_lt_of_le h.ltW hk.1

theorem PcsWorld.below {s : ByteArray} {bs bw bm : Nat} {W w' : World} (h : PcsWorld s bs bw bm W) (hb : Below W.heap.size W w') : PcsWorld s bs bw bm w' :=
  h.keep (Keep.of_below hb (by
    intro k hk
    simp only [pcsBlocks, List.mem_cons, List.not_mem_nil, or_false] at hk
    have h1 := h.ltS
    have h2 := h.ltW
    have h3 := h.map.lt
    have h4 := h.vars.lt
    omega))

theorem PcsWorld.drew {s : ByteArray} {bs bw bm : Nat} {W : World} (h : PcsWorld s bs bw bm W) : PcsWorld s bs bw bm W.drew := h.keep ⟨Nat.le_refl _, fun _ _ => rfl⟩

set_option maxRecDepth 100000 in
set_option maxHeartbeats 2000000 in
theorem pieces1_in (n : Nat) (hn : 3 ≤ n) (l bs bw bm : Nat) (s : ByteArray) (hs : s.size ≤ 140737488355328) (J Jx : List Piece → World → Prop) (W0 : World)
    (hJa : AbidesFrom W0.heap.size J)
    (hY : ∀ pre x W, J pre W → pre.length < (pcs s).length → YieldAt Fence.wide (n - 1) Tryz.prog l (Piece.vals x) W fun e W' =>
      (e = .returned (.bool true) ∧ J (pre ++ [x]) W' ∧ Keep (pcsBlocks bs bw bm) W W') ∨ (e = .returned (.bool false) ∧ Jx (pre ++ [x]) W'))
    (hW : PcsWorld s bs bw bm W0) (h0 : J [] W0) :
    CallsIn Fence.wide n Tryz.prog 44 #[.func (.yield l) #[] #[], .pointer (some ⟨bs, 0, none⟩), .pointer (some ⟨bw, 0, none⟩)] W0 fun e W' => (∃ v, e = .returned v) ∧
      ((∃ xs, xs = pcs s ∧ J xs W') ∨ (∃ pre, pre <+: pcs s ∧ Jx pre W')) := by
  have hc1 := hW.text
  have hlt1 := hW.ltS
  have h1 : 1 ≤ n := by omega
  have HW := Lib.hid (hW.below (w' := W0.alloc (.cells #[.int .u8 1] 93)) ((Below.refl _ _).alloc (Nat.le_refl _) _))
  have HJ := Lib.hid (hJa [] W0 (W0.alloc (.cells #[.int .u8 1] 93)) none h0 (only_of_below ((Below.refl _ _).alloc (Nat.le_refl _) _) none) (by simp))
  have HF := Lib.hid hW
  clear hW h0
  refine callsIn_of_wp Tryz.func44 rfl trivial ?_ rfl
  simp only [Tryz.ntmps44, List.size_toArray, List.length_cons, List.length_nil, Nat.reduceAdd, Nat.reduceSub, Array.replicate_succ, Array.replicate_zero, List.push_toArray, List.append_toArray, List.nil_append, List.cons_append]
  gi_wp2_with (refine ⟨trivial, ?_⟩; gi_at_call 45; refine (callsIn_wide.2 (past1 1 s _ _ (le_max hs) (by omega) (by omega))).mono ?_; rintro e w' ⟨rfl, rfl⟩)
  gi_loopw [4] (fun i wr => ∃ (pre : List Piece) (k f : Nat), i = .int .i64 k ∧ k ≤ s.size ∧ Hid (pcs s = pre ++ pcsFrom s f k ∧ s.size - k ≤ f) ∧ Hid (J pre wr) ∧ PcsWorld s bs bw bm wr)
    (fun i _ => s.size - (intOf i).toNat)
  case atStart => exact ⟨[], _, s.size, rfl, pastP_le _ _ _ (by omega), Lib.hid ⟨rfl, by omega⟩, HJ, HW.out⟩
  case round =>
    obtain ⟨pre, k, f, rfl, hk, hpc, hJs, hP⟩ := hrel
    have hcS := hP.text
    have hcW := hP.words
    have hlS := hP.ltS
    have hlW := hP.ltW
    have HP := Lib.hid hP
    clear hc1 hlt1 hP
    by_cases hlt : k < s.size
    · obtain ⟨en, hen⟩ : ∃ en, en = pieceEndP s k := ⟨_, rfl⟩
      have hg1 : k < en := by rw [hen]; exact pieceEndP_gt s k hlt
      have hg2 : en ≤ s.size := by rw [hen]; exact pieceEndP_le s k hlt
      have C86 : Hid (∀ w, CallsIn Fence.wide (n - 1) Tryz.prog 46 #[.string s, .int .i64 k] w fun e w' => e = .returned (.int .i64 en) ∧ Below w.heap.size w w') := by
        intro w
        have h := pieceEnd_any s k w hs (by omega) (by omega)
        rw [Int.toNat_natCast, ← hen] at h
        exact callsIn_wide.2 h
      have HEN := Lib.hid hen
      clear hen
      gi_wp2_with (refine ⟨trivial, ?_⟩; gi_at_call 46; refine (C86.out _).mono ?_; rintro e w1 ⟨rfl, hb1⟩)
      refine wpIn_wide.2 ?_
      have HP1 := Lib.hid (HP.out.below hb1)
      have hcS1 := HP1.out.text
      have hcW1 := HP1.out.words
      clear hcS hcW
      have C87 : Hid (∀ w, PcsWorld s bs bw bm w → Calls Tryz.prog 47 #[.string (s.extract k en), .map (some bm)] w fun e w' => e = .returned (.tuple #[.int .u8 (kindP (s.extract k en)).1, .int .i64 (kindP (s.extract k en)).2]) ∧ Below w.heap.size w w') := by
        intro w hw
        exact kindOf_any _ bm w (by simp; omega) (by simp; omega) hw.vars hw.map
      go_region_with (go_at_call 47; refine (C87.out _ HP1.out.drew).mono ?_; rintro e w2 ⟨rfl, hb2⟩)
      all_goals (
        have HP2 := Lib.hid (HP1.out.drew.below hb2)
        have hcS2 := HP2.out.text
        have hcW2 := HP2.out.words
        have hlS2 := HP2.out.ltS
        have hlW2 := HP2.out.ltW
        have HB := Lib.hid (hb1.drew.trans (hb2.mono hb1.size))
        have hcE : k + 1 ≤ en := hg1
        clear C86 C87 hcS1 hcW1 hb1 hb2
        by_cases h5 : (kindP (s.extract k en)).1 = 5)
      all_goals first
        | (have h5b : ((kindP (s.extract k en)).1 == 5) = true := by simpa using h5
           obtain ⟨f', hf1, hf2⟩ := pcsFrom_step s f k hlt hpc.out.2
           have hx : pieceAt s k = ⟨(kindP (s.extract k en)).1, s.extract (k + 1) en, k, (kindP (s.extract k en)).2⟩ := by unfold pieceAt; rw [← HEN.out]; simp [h5]
           have HS := Lib.hid (show pcs s = (pre ++ [⟨(kindP (s.extract k en)).1, s.extract (k + 1) en, k, (kindP (s.extract k en)).2⟩]) ++ pcsFrom s f' (pastP (inCls [1]) s en) by rw [hpc.out.1, hf1, hx, ← HEN.out]; simp)
           have HF2 := Lib.hid (show s.size - pastP (inCls [1]) s en ≤ f' by rw [HEN.out]; exact hf2)
           have HN := Lib.hid (show pre.length < (pcs s).length by rw [HS.out]; simp)
           clear h5 hf1 hf2 hx
           obtain ⟨fn, tmps, assign, body, hy, hR⟩ := hY pre ⟨(kindP (s.extract k en)).1, s.extract (k + 1) en, k, (kindP (s.extract k en)).2⟩ (w2.alloc (.cells #[.int .u8 (kindP (s.extract k en)).1, .string (s.extract (k + 1) en), .int .i64 k] 35))
             (hJa pre wr _ none hJs.out (only_of_below (HB.out.alloc HB.out.size _) none) (by simp)) HN.out)
        | (have h5b : ((kindP (s.extract k en)).1 == 5) = false := by simpa using h5
           obtain ⟨f', hf1, hf2⟩ := pcsFrom_step s f k hlt hpc.out.2
           have hx : pieceAt s k = ⟨(kindP (s.extract k en)).1, s.extract k en, k, (kindP (s.extract k en)).2⟩ := by unfold pieceAt; rw [← HEN.out]; simp [h5]
           have HS := Lib.hid (show pcs s = (pre ++ [⟨(kindP (s.extract k en)).1, s.extract k en, k, (kindP (s.extract k en)).2⟩]) ++ pcsFrom s f' (pastP (inCls [1]) s en) by rw [hpc.out.1, hf1, hx, ← HEN.out]; simp)
           have HF2 := Lib.hid (show s.size - pastP (inCls [1]) s en ≤ f' by rw [HEN.out]; exact hf2)
           have HN := Lib.hid (show pre.length < (pcs s).length by rw [HS.out]; simp)
           clear h5 hf1 hf2 hx
           obtain ⟨fn, tmps, assign, body, hy, hR⟩ := hY pre ⟨(kindP (s.extract k en)).1, s.extract k en, k, (kindP (s.extract k en)).2⟩ (w2.alloc (.cells #[.int .u8 (kindP (s.extract k en)).1, .string (s.extract k en), .int .i64 k] 35))
             (hJa pre wr _ none hJs.out (only_of_below (HB.out.alloc HB.out.size _) none) (by simp)) HN.out)
      all_goals (dsimp only [Piece.vals] at hy; clear HN)
      all_goals gi_wp2_with fail
      all_goals refine hR.mono ?_
      all_goals clear hy hR
      all_goals rintro e W4 (⟨rfl, hJ4, hk4⟩ | ⟨rfl, hJx4⟩)
      all_goals first
        | (have HP4 := Lib.hid ((HP2.out.below ((Below.refl _ _).alloc (Nat.le_refl _) _)).keep hk4)
           have hcS4 := HP4.out.text
           have hl4 := HP4.out.ltS
           have HJ5 := Lib.hid (hJa _ W4 (W4.alloc (.cells #[.int .u8 1] 93)) none hJ4 (only_of_below ((Below.refl _ _).alloc (Nat.le_refl _) _) none) (by simp))
           have HP5 := Lib.hid (HP4.out.below (w' := W4.alloc (.cells #[.int .u8 1] 93)) ((Below.refl _ _).alloc (Nat.le_refl _) _))
           clear hJ4 hk4 hcS2 hcW2
           gi_wp2_with (refine ⟨trivial, ?_⟩; gi_at_call 45; refine (callsIn_wide.2 (past1 1 s _ _ (le_max hs) (by omega) (by omega))).mono ?_; rintro e w' ⟨rfl, rfl⟩)
           go_roundw
           case rel => exact ⟨_, pastP (inCls [1]) s en, _, rfl, pastP_le _ _ _ hg2, Lib.hid ⟨HS.out, HF2.out⟩, HJ5, HP5.out⟩
           case measure => simp [intOf]; have := pastP_ge (inCls [1]) s en; have := pastP_le (inCls [1]) s en hg2; omega)
        | (have HJ5 := Lib.hid hJx4
           clear hJx4
           gi_wp2
           refine bodyPost_ret (results_none rfl _ _ _) rfl ?_
           exact ⟨⟨_, rfl⟩, .inr ⟨_, ⟨_, HS.out.symm⟩, HJ5.out⟩⟩)
    · gi_wp2
      go_end0
      refine ⟨⟨_, rfl⟩, .inl ⟨_, rfl, ?_⟩⟩
      rw [hpc.out.1, pcsFrom_end s f k (by omega), List.append_nil]
      exact hJs.out
end Go.Proofs.YtjadjmkbjolklaaGreatDoor
namespace Go.Proofs.YtjadjmkbjolklaaGreatDoor
open Go.RowKit Go.Shelf
attribute [local go_sem] Oper.semAt_some

theorem pieces_any (s : ByteArray) (b : Nat) (w : World) :
    Calls Tryz.prog 16 #[.string s, .map (some b)] w fun e w' => e = .returned (.func (.func 44) #[] #[.pointer (some ⟨w.heap.size, 0, none⟩), .pointer (some ⟨w.heap.size + 1, 0, none⟩)]) ∧
      w' = (w.alloc (.cells #[.string s] 9)).alloc (.cells #[.map (some b)] 54) := by
  go_enter Tryz.func16, Tryz.ntmps16
  go_wp2
  go_ret
  exact ⟨rfl, rfl⟩

theorem pieces_stops (n : Nat) (hn : 3 ≤ n) (bs bw bm : Nat) (s : ByteArray) (hs : s.size ≤ 140737488355328) (w : World) (hW : PcsWorld s bs bw bm w) :
    SeqStopsK Fence.wide n Tryz.prog 44 #[.pointer (some ⟨bs, 0, none⟩), .pointer (some ⟨bw, 0, none⟩)] Piece.vals (Keep (pcsBlocks bs bw bm)) (fun xs => xs = pcs s) (fun pre => pre <+: pcs s) (pcs s).length w :=
  fun l J Jx W hb hJa _ hY h0 => pieces1_in n hn l bs bw bm s hs J Jx W hJa hY (hW.below hb) h0

theorem pcsFrom_length (s : ByteArray) : ∀ (f k : Nat), (pcsFrom s f k).length ≤ f
  | 0, _ => Nat.le_refl _
  | f + 1, k => by
    rw [pcsFrom]
    split
    · have := pcsFrom_length s f (pastP (inCls [1]) s (pieceEndP s k))
      simp only [List.length_cons]
      omega
    · simp

theorem pcs_length (s : ByteArray) : (pcs s).length ≤ s.size := pcsFrom_length s _ _

/-- The cells of tokens. -/
def Piece.cells3 (x : Piece) : List Value := [.int .u8 x.kind, .string x.text, .int .i64 x.at_]
def tokCells (l : List Piece) : List Value := l.flatMap Piece.cells3
theorem tokCells_append (l l' : List Piece) : tokCells (l ++ l') = tokCells l ++ tokCells l' := by simp [tokCells]

/-- A slice value that owns tokens. -/
def OwnToks (W : World) (B : Nat) (v : Value) (l : List Piece) : Prop := W.ownsRow B 35 3 v l.length (tokCells l)

def isNote (x : Piece) : Bool := x.kind == 5
def notes (s : ByteArray) : List Piece := (pcs s).filter isNote

theorem info63 : (Tryz.prog.info? 35).map (fun i => (i.zero, i.size, i.bytes)) = some (some (.agg #[.int .u8 0, .string ByteArray.empty, .int .i64 0]), 3, 32) := by kernel_rfl

theorem row_ne {W : World} {B : Nat} {v : Value} {l : List Piece} (h : OwnToks W B v l) {b : Nat} {o : Obj} (hb : W.heap[b]? = some o) (ho : ∀ cs fz, o ≠ .cells cs 35 fz) : some b ≠ v.ownBlock := by
  rcases h.2 with ⟨rfl, _⟩ | ⟨g, cap, cur, rfl, _, hgb, _⟩
  · simp [Value.ownBlock]
  · intro e
    obtain rfl : b = g := by simpa [Value.ownBlock] using e
    rw [hb] at hgb
    injection hgb with e
    exact ho _ _ e

theorem row_ne_lt {W : World} {B : Nat} {v : Value} {l : List Piece} (h : OwnToks W B v l) {b : Nat} (hb : b < B) : some b ≠ v.ownBlock := by
  rcases h.2 with ⟨rfl, _⟩ | ⟨g, cap, cur, rfl, hg, _⟩
  · simp [Value.ownBlock]
  · intro e
    obtain rfl : b = g := by simpa [Value.ownBlock] using e
    omega

theorem KwMap.alloc {w : World} {b : Nat} (h : KwMap w b) (o : Obj) : KwMap (w.alloc o) b := (Below.heap_alloc w o b h.lt).trans h
theorem KwMap.new (w : World) : KwMap (w.alloc (.map (kwArr 30) 30)) w.heap.size := World.alloc_heap_new w _

theorem notes_world (w1 : World) (s : ByteArray) :
    Boxed ((((w1.alloc (.cells #[.slice none 0 0] 22)).alloc (.map (kwArr 30) 30)).alloc (.cells #[.string s] 9)).alloc (.cells #[.map (some (w1.heap.size + 1))] 54)) w1.heap.size 22 (.slice none 0 0) ∧
    KwMap ((((w1.alloc (.cells #[.slice none 0 0] 22)).alloc (.map (kwArr 30) 30)).alloc (.cells #[.string s] 9)).alloc (.cells #[.map (some (w1.heap.size + 1))] 54)) (w1.heap.size + 1) ∧
    Boxed ((((w1.alloc (.cells #[.slice none 0 0] 22)).alloc (.map (kwArr 30) 30)).alloc (.cells #[.string s] 9)).alloc (.cells #[.map (some (w1.heap.size + 1))] 54)) (w1.heap.size + 1 + 1) 9 (.string s) ∧
    Boxed ((((w1.alloc (.cells #[.slice none 0 0] 22)).alloc (.map (kwArr 30) 30)).alloc (.cells #[.string s] 9)).alloc (.cells #[.map (some (w1.heap.size + 1))] 54)) (w1.heap.size + 1 + 1 + 1) 54 (.map (some (w1.heap.size + 1))) ∧
    ((((w1.alloc (.cells #[.slice none 0 0] 22)).alloc (.map (kwArr 30) 30)).alloc (.cells #[.string s] 9)).alloc (.cells #[.map (some (w1.heap.size + 1))] 54)).heap.size = w1.heap.size + 4 := by
  have bM := ((KwMap.new (w1.alloc (.cells #[.slice none 0 0] 22))).alloc (.cells #[.string s] 9)).alloc (.cells #[.map (some (w1.heap.size + 1))] 54)
  have bS := (Boxed.new ((w1.alloc (.cells #[.slice none 0 0] 22)).alloc (.map (kwArr 30) 30)) 9 (.string s)).alloc (.cells #[.map (some (w1.heap.size + 1))] 54)
  have bW := Boxed.new (((w1.alloc (.cells #[.slice none 0 0] 22)).alloc (.map (kwArr 30) 30)).alloc (.cells #[.string s] 9)) 54 (.map (some (w1.heap.size + 1)))
  simp only [World.size_alloc] at bM bS bW
  exact ⟨(((Boxed.new w1 22 (.slice none 0 0)).alloc _).alloc _).alloc _, bM, bS, bW, by simp⟩

theorem cells_new (w : World) (t : TypeId) (cs : List Value) : ∀ j u, cs[j]? = some u → (w.alloc (.cells cs.toArray t)).cell? (Addr.add ⟨w.heap.size, 0, none⟩ j) = some u := by
  intro j u h
  have e : Addr.add ⟨w.heap.size, 0, none⟩ j = ⟨w.heap.size, j, none⟩ := by unfold Addr.add; split <;> simp_all
  rw [e, World.cell?_alloc_at _ _ _ _ rfl]
  simpa using h

theorem keep_app {K : List Nat} {W w2 : World} {tmp : Obj} {row : Option Nat} {L : Nat} {u : Value} (hgrow : (W.alloc tmp).grownBy w2 row) (hne : ∀ k ∈ K, some k ≠ row) (hlt : ∀ k ∈ K, k < W.heap.size) (hL : ∀ k ∈ K, k ≠ L) :
    Keep K W (w2.setCell ⟨L, 0, none⟩ u) := by
  refine ⟨?_, fun k hk => ?_⟩
  · have := hgrow.size
    simp [World.setCell] at this ⊢
    omega
  · rw [Below.heap_setCell _ _ _ _ (hL k hk), hgrow.block k (by have := hlt k hk; simp; omega) (hne k hk)]
    exact Below.heap_alloc _ _ _ (hlt k hk)

theorem pcs_ne {s : ByteArray} {bs bw bm n₀ : Nat} {W0 W : World} {v : Value} {n : Nat} {xs : List Value} (hk : Keep (pcsBlocks bs bw bm) W0 W) (h : W.ownsRow n₀ 35 3 v n xs)
    (bS : Boxed W0 bs 9 (.string s)) (bW : Boxed W0 bw 54 (.map (some bm))) (bM : KwMap W0 bm) (hg : 2 < n₀ ∧ 1 < n₀) :
    ∀ k ∈ pcsBlocks bs bw bm, some k ≠ v.ownBlock := by
  intro k hkm
  have hb := hk.2 k hkm
  rcases h.2 with ⟨rfl, _⟩ | ⟨g, cap, cur, rfl, hgb, hgc, _⟩
  · simp [Value.ownBlock]
  · intro e
    obtain rfl : k = g := by simpa [Value.ownBlock] using e
    rw [hb] at hgc
    simp only [pcsBlocks, List.mem_cons, List.not_mem_nil, or_false] at hkm
    rcases hkm with rfl | rfl | rfl | rfl | rfl
    · have := bS.symm.trans hgc; simp at this
    · have := bW.symm.trans hgc; simp at this
    · have := bM.symm.trans hgc; simp at this
    · omega
    · omega

theorem textErr_ok {s : ByteArray} (h : (textErr s).2 = 0) : s.size ≤ 2500 := by
  unfold textErr at h
  split at h
  · cases h
  · omega

theorem keep_putObj {K : List Nat} {B : Nat} (hK : ∀ k ∈ K, k < B) (W : World) (l : Nat) (o o' : Obj) (hl : B ≤ l) (_ : W.heap[l]? = some o) (_ : o.isCells = false) (_ : o.isWalk = false) : Keep K W (W.putObj l o') :=
  ⟨by simp, fun k hk => World.putObj_heap_other (by have := hK k hk; omega)⟩

theorem ownFrom_keep {β : Type} {K : List Nat} {B : Nat} {W0 : World} (hK : ∀ k ∈ K, k < B) (hB : ∀ k ∈ K, k < W0.heap.size) : OwnFrom B (fun (_ : β) W => Keep K W0 W) := by
  intro s W W' row hs hg hr
  refine hs.trans ⟨hg.size, fun k hk => hg.block k (Nat.lt_of_lt_of_le (hB k hk) hs.1) ?_⟩
  intro e
  have := (hr k e.symm).1
  have := hK k hk
  omega

set_option maxRecDepth 100000 in
set_option maxHeartbeats 2000000 in
theorem notes_any (s : ByteArray) (w : World) (hs : s.size ≤ 140737488355328) (hv : NumVars w) :
    Calls Tryz.prog 41 #[.string s] w fun e w' => ∃ v, e = .returned (.tuple #[v, .int .i64 (textErr s).2]) ∧ Below w.heap.size w w' ∧ OwnToks w' w.heap.size v (if (textErr s).2 = 0 then notes s else []) := by
  have HV := Lib.hid hv
  clear hv
  refine (callsIn_wide (n := 6)).1 ?_
  by_cases he : (textErr s).2 = 0
  · have HE := Lib.hid he
    have heb : ((textErr s).2 != 0) = false := by simpa using he
    clear he
    refine callsIn_of_wp_marks Tryz.func41 rfl trivial ?_ rfl
    simp only [Tryz.ntmps41, List.size_toArray, List.length_cons, List.length_nil, Nat.reduceAdd, Nat.reduceSub, Array.replicate_succ, Array.replicate_zero, List.push_toArray, List.append_toArray, List.nil_append, List.cons_append]
    gi_wp2_with (first
      | (refine ⟨trivial, ?_⟩; gi_at_call 15; refine (callsIn_wide.2 (textError_any s _ (le_max hs))).mono ?_; rintro e w1 ⟨rfl, hb1⟩)
      | (refine ⟨trivial, ?_⟩; gi_at_call 17; refine (callsIn_wide.2 (keywords_any _)).mono ?_; rintro e w' ⟨rfl, rfl⟩)
      | (refine ⟨trivial, ?_⟩; gi_at_call 16; refine (callsIn_wide.2 (pieces_any s _ _)).mono ?_; rintro e w' ⟨rfl, rfl⟩))
    obtain ⟨bL, bM, bS, bW, hsz⟩ := notes_world w1 s
    have hB0 : Below w.heap.size w ((((w1.alloc (.cells #[.slice none 0 0] 22)).alloc (.map (kwArr 30) 30)).alloc (.cells #[.string s] 9)).alloc (.cells #[.map (some (w1.heap.size + 1))] 54)) :=
      ((((hb1.alloc hb1.size _).alloc (by simp; have := hb1.size; omega) _).alloc (by simp; have := hb1.size; omega) _).alloc (by simp; have := hb1.size; omega) _)
    obtain ⟨W0, hW0⟩ : ∃ W0, (((w1.alloc (.cells #[.slice none 0 0] 22)).alloc (.map (kwArr 30) 30)).alloc (.cells #[.string s] 9)).alloc (.cells #[.map (some (w1.heap.size + 1))] 54) = W0 := ⟨_, rfl⟩
    rw [hW0] at bL bM bS bW hsz hB0 ⊢
    clear hW0
    have hP : PcsWorld s (w1.heap.size + 1 + 1) (w1.heap.size + 1 + 1 + 1) (w1.heap.size + 1) W0 :=
      ⟨bS.cell, bW.cell, bM, HV.out.keep hB0, bS.lt, bW.lt⟩
    have h25 : s.size ≤ 2500 := textErr_ok HE.out
    obtain ⟨i0, hi, hz0, hz1, hz2⟩ := info_parts info63
    have hwl := hb1.size
    have hKlt : ∀ k ∈ pcsBlocks (w1.heap.size + 1 + 1) (w1.heap.size + 1 + 1 + 1) (w1.heap.size + 1), k < W0.heap.size := by
      intro k hk; simp [pcsBlocks] at hk; have := HV.out.lt; omega
    have hKL : ∀ k ∈ pcsBlocks (w1.heap.size + 1 + 1) (w1.heap.size + 1 + 1 + 1) (w1.heap.size + 1), k ≠ w1.heap.size := by
      intro k hk; simp [pcsBlocks] at hk; have := HV.out.lt; omega
    refine wpIn_rangeFunc_ownH rfl (by omega) (gf := 44) (lb := #[.pointer (some ⟨w1.heap.size + 1 + 1, 0, none⟩), .pointer (some ⟨w1.heap.size + 1 + 1 + 1, 0, none⟩)]) rfl trivial (enters_of Tryz.func44 (by kernel_rfl) rfl)
      (pieces_stops 5 (by omega) _ _ _ s hs W0 hP) Keep.trans (keep_putObj (by intro k hk; simp [pcsBlocks] at hk; have := HV.out.lt; omega)) (Below.refl _ _) (fun _ => rfl)
      (fun (pre : List Piece) W => (∃ v, Boxed W w1.heap.size 22 v ∧ W.ownsRow w.heap.size 35 3 v (pre.filter isNote).length (tokCells (pre.filter isNote)) ∧ True) ∧ Keep (pcsBlocks (w1.heap.size + 1 + 1) (w1.heap.size + 1 + 1 + 1) (w1.heap.size + 1)) W0 W ∧ Below w.heap.size w W)
      (fun _ _ _ => False)
      (OwnFrom.and (Own.from (holdsRow_own w.heap.size w1.heap.size 22 35 3 (fun (pre : List Piece) => (pre.filter isNote).length) (fun pre => tokCells (pre.filter isNote)) (fun _ _ => True)) _) (OwnFrom.and (ownFrom_keep (by intro k hk; simp [pcsBlocks] at hk; have := HV.out.lt; omega) (by intro k hk; simp [pcsBlocks] at hk; have := HV.out.lt; omega)) (ownFrom_below (Nat.le_refl _) (by omega))))
      (fun _ _ _ _ _ hs _ _ => hs)
      ⟨⟨_, bL, World.ownsRow_nil _ _ _ _, trivial⟩, Keep.refl _ _, hB0⟩
      (fun (x : Piece) a' W => ∃ Bx, W.heap[Bx]? = some (.cells #[.int .u8 x.kind, .string x.text, .int .i64 x.at_] 35 (0, 0)) ∧ a' = { tmps := #[.string s, undef, .slice none 0 0, .int .i64 0, .int .i64 (textErr s).1, .int .i64 (textErr s).2, .pointer (some ⟨w1.heap.size, 0, none⟩), .pointer (some ⟨Bx, 0, none⟩),
        .tuple #[.int .i64 (textErr s).1, .int .i64 (textErr s).2], .string s, .tuple #[.int .i64 (textErr s).1, .int .i64 (textErr s).2], .int .i64 (textErr s).1, .int .i64 (textErr s).2, .int .i64 (textErr s).2, .bool false, undef, .string s, .map (some (w1.heap.size + 1)),
        .func (.func 44) #[] #[.pointer (some ⟨w1.heap.size + 1 + 1, 0, none⟩), .pointer (some ⟨w1.heap.size + 1 + 1 + 1, 0, none⟩)], .agg #[.int .u8 x.kind, .string x.text, .int .i64 x.at_], .int .i64 x.err, undef, undef, undef, undef, undef, undef, undef, undef], defers := [] })
      (fun x a' => by
        rintro _ X Y row ⟨Bx, h1, h2⟩ hg hr
        refine ⟨Bx, (hg.block Bx (Array.getElem?_eq_some_iff.1 h1).1 ?_).trans h1, h2⟩
        intro e
        obtain ⟨_, o, ho, hc⟩ := hr Bx e.symm
        rw [h1] at ho
        cases ho
        cases hc) ?assign ?body ?done ?stop
    case assign =>
      rintro l pre x W K hI hK
      dsimp only [Piece.vals]
      gi_wp2
      obtain ⟨⟨v, hv, hrow, _⟩, hkp, hB⟩ := hI
      exact hK _ _ ((KeepsOthers.alloc _ _).from _) (Keep.of_below ((Below.refl _ _).alloc (Nat.le_refl _) _) (fun k hk => Nat.lt_of_lt_of_le (hKlt k hk) hkp.1)) ⟨⟨v, hv.alloc _, hrow.alloc _, trivial⟩, hkp.trans (Keep.of_below ((Below.refl _ _).alloc (Nat.le_refl _) _) (fun k hk => Nat.lt_of_lt_of_le (hKlt k hk) hkp.1)), hB.alloc hB.size _⟩ ⟨W.heap.size, World.alloc_heap_new W _, rfl⟩
    case body =>
      rintro l pre x a' W hl ⟨r, hr⟩ ⟨⟨v, hv, hrow, _⟩, hkp, hB⟩ ⟨Bx, hBx, rfl⟩ hlt
      have hc := hv.cell
      have hx0 : W.cell? ⟨Bx, 0, none⟩ = some (.int .u8 x.kind) := cell_of_row W Bx 0 _ 35 (0, 0) hBx
      have hx1 : W.cell? ⟨Bx, 1, none⟩ = some (.string x.text) := cell_of_row W Bx 1 _ 35 (0, 0) hBx
      have hx2 : W.cell? ⟨Bx, 2, none⟩ = some (.int .i64 x.at_) := cell_of_row W Bx 2 _ 35 (0, 0) hBx
      have hpl : (pre.filter isNote).length ≤ pre.length := List.length_filter_le _ _
      have hpn := pcs_length s
      have hne := Lib.hid (pcs_ne hkp hrow bS bW bM HV.out.lt)
      have hkl := Lib.hid (fun k hk => Nat.lt_of_lt_of_le (hKlt k hk) hkp.1)
      by_cases hk5 : isNote x = true
      · have HK := Lib.hid hk5
        have hk5' : (x.kind == 5) = true := hk5
        clear hk5
        gi_wp2_with (gi_at_builtin; refine wpListIn_append_own _ rfl _ _ 22 rfl w.heap.size 35 i0 _ 3 32 Tryz.underlying22 hi hz0 hz1 hz2 rfl (by decide) _ _ _ rfl (hrow.alloc _) ⟨W.heap.size, 0, none⟩ 1 1 [.int .u8 x.kind, .string x.text, .int .i64 x.at_] rfl rfl (cells_new _ _ _) (by simp [Value.oneCell']) (by unfold maxLen; omega) (by omega) (by have := hB.size; simp; omega) ?_; intro v' w2 hown' hgrow _; obtain ⟨g', cap', rfl⟩ := ownsRow_succ hown'; obtain ⟨hv1, hv2, hr2, hk2, hb2⟩ := hv.appended (by decide) hrow hB.size hwl hown' hgrow; have hc1 := hv1.cell; have hf1 := hv1.frozen)
        have hkp2 := keep_app (u := .slice (some ⟨g', 0, none⟩) ((pre.filter isNote).length + 1) cap') hgrow hne.out hkl.out hKL
        refine ⟨hk2.from _, hkp2, ⟨_, hv2, ?_, trivial⟩, hkp.trans hkp2, hB.trans hb2⟩
        have e : (pre ++ [x]).filter isNote = pre.filter isNote ++ [x] := by rw [List.filter_append]; simp [HK.out]
        rw [e, tokCells_append, List.length_append]
        exact hr2
      · have HK := Lib.hid hk5
        have hk5' : (x.kind == 5) = false := by simpa [isNote] using hk5
        clear hk5
        gi_wp2
        refine ⟨KeepsFrom.refl _ _, Keep.refl _ _, ⟨v, hv, ?_, trivial⟩, hkp, hB⟩
        have e : (pre ++ [x]).filter isNote = pre.filter isNote := by rw [List.filter_append]; simp [HK.out]
        rw [e]
        exact hrow
    case done =>
      rintro D ys W hD rfl ⟨⟨v, hv, hrow, _⟩, hkp, hB⟩ hK
      have hc := hv.cell
      gi_wp2
      refine ⟨by simp, .inl ⟨_, _, rfl, run_takeDeferred hK, ?_⟩⟩
      exact ⟨_, results_tmp2 rfl _ _ _, v, rfl, hB.trans (belowK_b (w := w) (Nat.le_refl _) W D _ _ (by omega) hK rfl rfl), ownsRow_putObj hrow _ hK rfl⟩
    case stop =>
      rintro D c pre W _ _ h _
      exact h.elim
  · have HE := Lib.hid he
    have heb : ((textErr s).2 != 0) = true := by simpa using he
    clear he
    refine callsIn_wide.2 ?_
    go_enter Tryz.func41, Tryz.ntmps41
    go_wp2_with (go_at_call 15; refine (textError_any s _ (le_max hs)).mono ?_; rintro e w1 ⟨rfl, hb1⟩)
    go_ret2
    exact ⟨_, rfl, hb1, World.ownsRow_nil _ _ _ _⟩
end Go.Proofs.YtjadjmkbjolklaaGreatDoor
namespace Go.Proofs.YtjadjmkbjolklaaGreatDoor
open Go.RowKit Go.Shelf
attribute [local go_sem] Oper.semAt_some

/-- The tokens behind those in acc, till a piece stops it. -/
def tokAcc : List Piece → List Piece → Option (List Piece)
  | acc, [] => some acc
  | acc, p :: r => if isNote p = true then tokAcc acc r else if p.err ≠ 0 ∨ acc.length = 900 then none else tokAcc (acc ++ [p]) r

/-- The tokens, or where an error is, and which. -/
def tokRes : List Piece → List Piece → List Piece × Nat × Int
  | acc, [] => (acc, 0, 0)
  | acc, p :: r => if isNote p = true then tokRes acc r else if p.err ≠ 0 then ([], p.at_, p.err) else if acc.length = 900 then ([], p.at_, 5) else tokRes (acc ++ [p]) r

theorem tokAcc_res : ∀ (l r acc acc' : List Piece), tokAcc acc l = some acc' → tokRes acc (l ++ r) = tokRes acc' r
  | [], r, acc, acc', h => by
    simp only [tokAcc, Option.some.injEq] at h
    rw [h]
    rfl
  | p :: l, r, acc, acc', h => by
    rw [List.cons_append, tokRes]
    rw [tokAcc] at h
    by_cases hn : isNote p = true
    · rw [if_pos hn] at h ⊢
      exact tokAcc_res l r acc acc' h
    · rw [if_neg hn] at h ⊢
      by_cases hs : p.err ≠ 0 ∨ acc.length = 900
      · rw [if_pos hs] at h
        cases h
      · rw [if_neg hs] at h
        rw [if_neg (fun e => hs (.inl e)), if_neg (fun e => hs (.inr e))]
        exact tokAcc_res l r _ acc' h

theorem tokAcc_append : ∀ (l r acc acc' : List Piece), tokAcc acc l = some acc' → tokAcc acc (l ++ r) = tokAcc acc' r
  | [], r, acc, acc', h => by
    simp only [tokAcc, Option.some.injEq] at h
    rw [h]
    rfl
  | p :: l, r, acc, acc', h => by
    rw [List.cons_append, tokAcc]
    rw [tokAcc] at h
    by_cases hn : isNote p = true
    · rw [if_pos hn] at h ⊢
      exact tokAcc_append l r acc acc' h
    · rw [if_neg hn] at h ⊢
      by_cases hs : p.err ≠ 0 ∨ acc.length = 900
      · rw [if_pos hs] at h
        cases h
      · rw [if_neg hs] at h ⊢
        exact tokAcc_append l r _ acc' h

theorem tokAcc_length : ∀ (l acc acc' : List Piece), tokAcc acc l = some acc' → acc'.length ≤ acc.length + l.length
  | [], acc, acc', h => by
    simp only [tokAcc, Option.some.injEq] at h
    rw [h]
    simp
  | p :: l, acc, acc', h => by
    rw [tokAcc] at h
    rw [List.length_cons]
    split at h
    · have := tokAcc_length l acc acc' h
      omega
    · split at h
      · cases h
      · have := tokAcc_length l _ acc' h
        simp at this
        omega

/-- What lex.Tokens returns. -/
def lexTokens (s : ByteArray) : List Piece × Int × Int :=
  if (textErr s).2 = 0 then ((tokRes [] (pcs s)).1, ((tokRes [] (pcs s)).2.1 : Int), (tokRes [] (pcs s)).2.2) else ([], (textErr s).1, (textErr s).2)

theorem results_tok {tmps : Array Value} {W : World} {v : Value} {x y : Int} {B2 B3 B4 : Nat} (h2 : Boxed W B2 22 v) (h3 : Boxed W B3 3 (.int .i64 x)) (h4 : Boxed W B4 23 (.int .i64 y))
    (t2 : tmps[2]?.getD undef = .pointer (some ⟨B2, 0, none⟩)) (t3 : tmps[3]?.getD undef = .pointer (some ⟨B3, 0, none⟩)) (t4 : tmps[4]?.getD undef = .pointer (some ⟨B4, 0, none⟩)) :
    (results Tryz.f4 tmps).run Tryz.prog W = .ok (.tuple #[v, .int .i64 x, .int .i64 y]) W := by
  have c2 := h2.cell
  have c3 := h3.cell
  have c4 := h4.cell
  simp [results, Tryz.results4, t2, t3, t4, go_sem, loadVar, c2, c3, c4]

theorem three_boxes {w w1 : World} (hb : Below (((w.alloc (.cells #[.slice none 0 0] 22)).alloc (.cells #[.int .i64 0] 3)).alloc (.cells #[.int .i64 0] 23)).heap.size (((w.alloc (.cells #[.slice none 0 0] 22)).alloc (.cells #[.int .i64 0] 3)).alloc (.cells #[.int .i64 0] 23)) w1) :
    Boxed w1 w.heap.size 22 (.slice none 0 0) ∧ Boxed w1 (w.heap.size + 1) 3 (.int .i64 0) ∧ Boxed w1 (w.heap.size + 1 + 1) 23 (.int .i64 0) := by
  have b3 := (Boxed.new (w.alloc (.cells #[.slice none 0 0] 22)) 3 (.int .i64 0)).alloc (.cells #[.int .i64 0] 23)
  have b4 := Boxed.new ((w.alloc (.cells #[.slice none 0 0] 22)).alloc (.cells #[.int .i64 0] 3)) 23 (.int .i64 0)
  simp only [World.size_alloc] at b3 b4
  exact ⟨(hb.block _ (by simp; omega)).trans (((Boxed.new w 22 (.slice none 0 0)).alloc _).alloc _), (hb.block _ (by simp)).trans b3, (hb.block _ (by simp)).trans b4⟩

/-- Between two rounds of lex.Tokens. -/
structure TokInv (w W0 : World) (L : Nat) (K : List Nat) (pre : List Piece) (W : World) : Prop where
  row : ∃ acc v, tokAcc [] pre = some acc ∧ Boxed W L 22 v ∧ W.ownsRow w.heap.size 35 3 v acc.length (tokCells acc)
  r2 : Boxed W w.heap.size 22 (.slice none 0 0)
  r3 : Boxed W (w.heap.size + 1) 3 (.int .i64 0)
  r4 : Boxed W (w.heap.size + 1 + 1) 23 (.int .i64 0)
  keep : Keep K W0 W
  below : Below w.heap.size w W

/-- A round of lex.Tokens has told of an error. -/
structure TokStop (w : World) (pre : List Piece) (W : World) : Prop where
  res : ∃ init p acc y, pre = init ++ [p] ∧ tokAcc [] init = some acc ∧ isNote p = false ∧ ((p.err ≠ 0 ∧ y = p.err) ∨ (p.err = 0 ∧ acc.length = 900 ∧ y = 5)) ∧ Boxed W (w.heap.size + 1) 3 (.int .i64 p.at_) ∧ Boxed W (w.heap.size + 1 + 1) 23 (.int .i64 y)
  r2 : Boxed W w.heap.size 22 (.slice none 0 0)
  below : Below w.heap.size w W

theorem box_app {W w2 : World} {tmp : Obj} {B L n₀ k : Nat} {t : TypeId} {v u x : Value} {xs : List Value} (h : Boxed W B t x) (hrow : W.ownsRow n₀ 35 3 v k xs) (hgrow : (W.alloc tmp).grownBy w2 v.ownBlock) (ht : t ≠ 35) (hL : B ≠ L) :
    Boxed (w2.setCell ⟨L, 0, none⟩ u) B t x := ((h.alloc tmp).kept hgrow (h.not_row ht hrow)).other hL u

theorem row_set {W : World} {B n₀ k : Nat} {t : TypeId} {v x : Value} {xs : List Value} (hrow : W.ownsRow n₀ 35 3 v k xs) (h : Boxed W B t x) (ht : t ≠ 35) (u : Value) : (W.setCell ⟨B, 0, none⟩ u).ownsRow n₀ 35 3 v k xs :=
  hrow.kept (grownBy_setCell' W B u) (.inr (h.not_row ht hrow).symm)

theorem slice_of {W : World} {n₀ : Nat} {e : TypeId} {size k : Nat} {v : Value} {xs : List Value} (h : W.ownsRow n₀ e size v k xs) : ∃ A c, v = .slice A k c := by
  rcases h.2 with ⟨rfl, rfl⟩ | ⟨g, cap, _, rfl, _⟩
  · exact ⟨_, _, rfl⟩
  · exact ⟨_, _, rfl⟩

theorem boxed_by {W W' : World} {row : Option Nat} {B : Nat} {t : TypeId} {v : Value} (h : Boxed W B t v) (hg : W.grownBy W' row) (hr : ∀ r, row = some r → ∃ o : Obj, W.heap[r]? = some o ∧ o.isCells = false) : Boxed W' B t v :=
  h.kept hg (fun e' => by obtain ⟨o, ho, hc⟩ := hr B e'.symm; rw [show W.heap[B]? = _ from h] at ho; cases ho; cases hc)

theorem row_by {W W' : World} {row : Option Nat} {n₀ : Nat} {e : TypeId} {size k : Nat} {v : Value} {xs : List Value} (h : W.ownsRow n₀ e size v k xs) (hg : W.grownBy W' row) (hr : ∀ r, row = some r → ∃ o : Obj, W.heap[r]? = some o ∧ o.isCells = false) : W'.ownsRow n₀ e size v k xs := by
  refine h.kept hg ?_
  rcases h.2 with ⟨rfl, _⟩ | ⟨g, cap, cur, rfl, _, hgb, _⟩
  · exact .inl rfl
  · refine .inr fun e' => ?_
    obtain ⟨o, ho, hc⟩ := hr g (by simpa [Value.ownBlock] using e'.symm)
    rw [hgb] at ho; cases ho; cases hc

theorem tokInv_own {w W0 : World} {L B : Nat} {K : List Nat} (hB : W0.heap.size ≤ B) (hw : w.heap.size ≤ B) (hK : ∀ k ∈ K, k < W0.heap.size) : OwnFrom B (fun (pre : List Piece) W => TokInv w W0 L K pre W) := by
  intro pre W W' rw_ h hg hr
  have hr' : ∀ r, rw_ = some r → ∃ o : Obj, W.heap[r]? = some o ∧ o.isCells = false := fun r e => (hr r e).2
  obtain ⟨acc, v, h1, h2, h3⟩ := h.row
  refine ⟨⟨acc, v, h1, boxed_by h2 hg hr', row_by h3 hg hr'⟩, boxed_by h.r2 hg hr', boxed_by h.r3 hg hr', boxed_by h.r4 hg hr', ?_, h.below.grown hg h.below.size (fun k e => by have := (hr k e).1; omega)⟩
  exact ownFrom_keep (β := Unit) (K := K) (B := B) (W0 := W0) (fun k hk => Nat.lt_of_lt_of_le (hK k hk) hB) hK () W W' rw_ h.keep hg hr

theorem TokInv.alloc {w W0 W : World} {L : Nat} {K : List Nat} {pre : List Piece} (h : TokInv w W0 L K pre W) (hK : ∀ k ∈ K, k < W0.heap.size) (o : Obj) : TokInv w W0 L K pre (W.alloc o) := by
  obtain ⟨acc, v, h1, h2, h3⟩ := h.row
  exact ⟨⟨acc, v, h1, h2.alloc _, h3.alloc _⟩, h.r2.alloc _, h.r3.alloc _, h.r4.alloc _, h.keep.trans (Keep.of_below ((Below.refl _ _).alloc (Nat.le_refl _) _) (fun k hk => Nat.lt_of_lt_of_le (hK k hk) h.keep.1)), h.below.alloc h.below.size _⟩

theorem tokStop_own {w : World} {B : Nat} (hw : w.heap.size ≤ B) (c : Code) : OwnFrom B (fun (pre : List Piece) W => c = .ret ∧ TokStop w pre W) := by
  rintro pre W W' rw_ ⟨hc, h⟩ hg hr
  have hr' : ∀ r, rw_ = some r → ∃ o : Obj, W.heap[r]? = some o ∧ o.isCells = false := fun r e => (hr r e).2
  obtain ⟨init, p, acc, y, e1, e2, e3, e4, e5, e6⟩ := h.res
  exact ⟨hc, ⟨init, p, acc, y, e1, e2, e3, e4, boxed_by e5 hg hr', boxed_by e6 hg hr'⟩, boxed_by h.r2 hg hr', h.below.grown hg h.below.size (fun k e => by have := (hr k e).1; omega)⟩

theorem stop_end {w W0 W : World} {L B : Nat} {K : List Nat} {pre acc : List Piece} {x : Piece} {y : Int} (hI : TokInv w W0 L K pre W) (ha : tokAcc [] pre = some acc) (hn : isNote x = false)
    (hy : (x.err ≠ 0 ∧ y = x.err) ∨ (x.err = 0 ∧ acc.length = 900 ∧ y = 5)) :
    KeepsFrom B W (((W.setCell ⟨w.heap.size, 0, none⟩ (.slice none 0 0)).setCell ⟨w.heap.size + 1, 0, none⟩ (.int .i64 x.at_)).setCell ⟨w.heap.size + 1 + 1, 0, none⟩ (.int .i64 y)).drew ∧ Code.ret = .ret ∧
      TokStop w (pre ++ [x]) (((W.setCell ⟨w.heap.size, 0, none⟩ (.slice none 0 0)).setCell ⟨w.heap.size + 1, 0, none⟩ (.int .i64 x.at_)).setCell ⟨w.heap.size + 1 + 1, 0, none⟩ (.int .i64 y)).drew := by
  refine ⟨((((KeepsOthers.setCell _ _ _).trans (KeepsOthers.setCell _ _ _)).trans (KeepsOthers.setCell _ _ _)).trans (KeepsOthers.drew _)).from _, rfl, ⟨⟨pre, x, acc, y, rfl, ha, hn, hy, ?_, ?_⟩, ?_, ?_⟩⟩
  · exact ((hI.r3.other (B' := w.heap.size) (by omega) _).set _).other (B' := w.heap.size + 1 + 1) (by omega) _
  · exact ((hI.r4.other (B' := w.heap.size) (by omega) _).other (B' := w.heap.size + 1) (by omega) _).set _
  · exact ((hI.r2.set _).other (B' := w.heap.size + 1) (by omega) _).other (B' := w.heap.size + 1 + 1) (by omega) _
  · exact (((hI.below.setCell (p := ⟨w.heap.size, 0, none⟩) (Nat.le_refl _) _).setCell (p := ⟨w.heap.size + 1, 0, none⟩) (by simp) _).setCell (p := ⟨w.heap.size + 1 + 1, 0, none⟩) (by simp; omega) _).drew

theorem tokInv_start {w W0 : World} {L : Nat} {K : List Nat} (bL : Boxed W0 L 22 (.slice none 0 0)) (d2 : Boxed W0 w.heap.size 22 (.slice none 0 0)) (d3 : Boxed W0 (w.heap.size + 1) 3 (.int .i64 0)) (d4 : Boxed W0 (w.heap.size + 1 + 1) 23 (.int .i64 0)) (hB : Below w.heap.size w W0) :
    TokInv w W0 L K [] W0 := ⟨⟨[], _, rfl, bL, World.ownsRow_nil _ _ _ _⟩, d2, d3, d4, Keep.refl _ _, hB⟩

set_option maxRecDepth 100000 in
set_option maxHeartbeats 4000000 in
theorem tokens_any (s : ByteArray) (w : World) (hs : s.size ≤ 140737488355328) (hv : NumVars w) :
    Calls Tryz.prog 4 #[.string s] w fun e w' => ∃ v, e = .returned (.tuple #[v, .int .i64 (lexTokens s).2.1, .int .i64 (lexTokens s).2.2]) ∧ Below w.heap.size w w' ∧ OwnToks w' w.heap.size v (lexTokens s).1 := by
  have HV := Lib.hid hv
  clear hv
  refine (callsIn_wide (n := 6)).1 ?_
  by_cases he : (textErr s).2 = 0
  · have HE := Lib.hid he
    have heb : ((textErr s).2 != 0) = false := by simpa using he
    clear he
    refine callsIn_of_wp_marks Tryz.func4 rfl trivial ?_ rfl
    simp only [Tryz.ntmps4, List.size_toArray, List.length_cons, List.length_nil, Nat.reduceAdd, Nat.reduceSub, Array.replicate_succ, Array.replicate_zero, List.push_toArray, List.append_toArray, List.nil_append, List.cons_append]
    gi_wp2_with (first
      | (refine ⟨trivial, ?_⟩; gi_at_call 15; refine (callsIn_wide.2 (textError_any s _ (le_max hs))).mono ?_; rintro e w1 ⟨rfl, hb1⟩)
      | (refine ⟨trivial, ?_⟩; gi_at_call 17; refine (callsIn_wide.2 (keywords_any _)).mono ?_; rintro e w' ⟨rfl, rfl⟩)
      | (refine ⟨trivial, ?_⟩; gi_at_call 16; refine (callsIn_wide.2 (pieces_any s _ _)).mono ?_; rintro e w' ⟨rfl, rfl⟩))
    obtain ⟨b2, b3, b4⟩ := three_boxes hb1
    have hb2 := ((((Below.refl _ w).alloc (Nat.le_refl _) _).alloc (by simp) _).alloc (by simp; omega) _).trans (hb1.mono (by simp; omega))
    have hw1 : w.heap.size + 3 ≤ w1.heap.size := by have := hb1.size; simp at this; omega
    obtain ⟨bL, bM, bS, bW, hsz⟩ := notes_world w1 s
    have hB0 : Below w.heap.size w ((((w1.alloc (.cells #[.slice none 0 0] 22)).alloc (.map (kwArr 30) 30)).alloc (.cells #[.string s] 9)).alloc (.cells #[.map (some (w1.heap.size + 1))] 54)) :=
      (((hb2.alloc (by omega) _).alloc (by simp; omega) _).alloc (by simp; omega) _).alloc (by simp; omega) _
    have d2 := (((b2.alloc (.cells #[.slice none 0 0] 22)).alloc (.map (kwArr 30) 30)).alloc (.cells #[.string s] 9)).alloc (.cells #[.map (some (w1.heap.size + 1))] 54)
    have d3 := (((b3.alloc (.cells #[.slice none 0 0] 22)).alloc (.map (kwArr 30) 30)).alloc (.cells #[.string s] 9)).alloc (.cells #[.map (some (w1.heap.size + 1))] 54)
    have d4 := (((b4.alloc (.cells #[.slice none 0 0] 22)).alloc (.map (kwArr 30) 30)).alloc (.cells #[.string s] 9)).alloc (.cells #[.map (some (w1.heap.size + 1))] 54)
    obtain ⟨W0, hW0⟩ : ∃ W0, ((((w1.alloc (.cells #[.slice none 0 0] 22)).alloc (.map (kwArr 30) 30)).alloc (.cells #[.string s] 9)).alloc (.cells #[.map (some (w1.heap.size + 1))] 54)) = W0 := ⟨_, rfl⟩
    rw [hW0] at bL bM bS bW hsz hB0 d2 d3 d4 ⊢
    clear hW0 b2 b3 b4 hb1
    have hP : PcsWorld s (w1.heap.size + 1 + 1) (w1.heap.size + 1 + 1 + 1) (w1.heap.size + 1) W0 :=
      ⟨bS.cell, bW.cell, bM, HV.out.keep hB0, bS.lt, bW.lt⟩
    have h25 : s.size ≤ 2500 := textErr_ok HE.out
    obtain ⟨i0, hi, hz0, hz1, hz2⟩ := info_parts info63
    have hKlt : ∀ k ∈ (pcsBlocks (w1.heap.size + 1 + 1) (w1.heap.size + 1 + 1 + 1) (w1.heap.size + 1)), k < W0.heap.size := by
      intro k hk; simp [pcsBlocks] at hk; have := HV.out.lt; omega
    have hmx : Tryz.prog.follows .mixedOrders = true := by kernel_rfl
    have hKL : ∀ k ∈ (pcsBlocks (w1.heap.size + 1 + 1) (w1.heap.size + 1 + 1 + 1) (w1.heap.size + 1)), k ≠ w1.heap.size := by
      intro k hk; simp [pcsBlocks] at hk; have := HV.out.lt; omega
    refine wpIn_rangeFunc_ownH rfl (by omega) (gf := 44) (lb := #[.pointer (some ⟨w1.heap.size + 1 + 1, 0, none⟩), .pointer (some ⟨w1.heap.size + 1 + 1 + 1, 0, none⟩)]) rfl trivial (enters_of Tryz.func44 (by kernel_rfl) rfl)
      (pieces_stops 5 (by omega) _ _ _ s hs W0 hP) Keep.trans (keep_putObj (by intro k hk; have := hKlt k hk; omega)) (Below.refl _ _) (fun _ => rfl)
      (fun (pre : List Piece) W => TokInv w W0 w1.heap.size (pcsBlocks (w1.heap.size + 1 + 1) (w1.heap.size + 1 + 1 + 1) (w1.heap.size + 1)) pre W)
      (fun c pre W => c = .ret ∧ TokStop w pre W)
      (tokInv_own (Nat.le_refl _) (by omega) hKlt) (fun c => tokStop_own (by omega) c)
      (tokInv_start bL d2 d3 d4 hB0)
      (fun (x : Piece) a' W => ∃ Bx, W.heap[Bx]? = some (.cells #[.int .u8 x.kind, .string x.text, .int .i64 x.at_] 35 (0, 0)) ∧ a' = { tmps := #[.string s, undef, .pointer (some ⟨w.heap.size, 0, none⟩), .pointer (some ⟨w.heap.size + 1, 0, none⟩), .pointer (some ⟨w.heap.size + 1 + 1, 0, none⟩), .int .i64 (textErr s).1, .int .i64 (textErr s).2, .pointer (some ⟨w1.heap.size, 0, none⟩), .pointer (some ⟨Bx, 0, none⟩), .int .i64 x.err, .tuple #[.int .i64 (textErr s).1, .int .i64 (textErr s).2], .string s, .tuple #[.int .i64 (textErr s).1, .int .i64 (textErr s).2], .int .i64 (textErr s).1, .int .i64 (textErr s).2, .int .i64 (textErr s).2, .bool false, undef, undef, .string s, .map (some (w1.heap.size + 1)), .func (.func 44) #[] #[.pointer (some ⟨w1.heap.size + 1 + 1, 0, none⟩), .pointer (some ⟨w1.heap.size + 1 + 1 + 1, 0, none⟩)], .agg #[.int .u8 x.kind, .string x.text, .int .i64 x.at_], .int .i64 x.err, undef, undef, undef, undef, undef, undef, undef, undef, undef, undef, undef, undef, undef, undef, undef, undef, undef, undef, undef, undef], defers := [] })
      (fun x a' => by
        rintro _ X Y row ⟨Bx, h1, h2⟩ hg hr
        refine ⟨Bx, (hg.block Bx (Array.getElem?_eq_some_iff.1 h1).1 ?_).trans h1, h2⟩
        intro e
        obtain ⟨_, o, ho, hc⟩ := hr Bx e.symm
        rw [h1] at ho
        cases ho
        cases hc) ?assign ?body ?done ?stop
    case assign =>
      rintro l pre x W K hI hK
      dsimp only [Piece.vals]
      gi_wp2
      exact hK _ _ ((KeepsOthers.alloc _ _).from _) (Keep.of_below ((Below.refl _ _).alloc (Nat.le_refl _) _) (fun k hk => Nat.lt_of_lt_of_le (hKlt k hk) hI.keep.1)) (hI.alloc hKlt _) ⟨W.heap.size, World.alloc_heap_new W _, rfl⟩
    case body =>
      rintro l pre x a' W hl ⟨r, hr⟩ hI ⟨Bx, hBx, rfl⟩ hlt
      obtain ⟨acc, v, ha, hv, hrow⟩ := hI.row
      obtain ⟨A, c, rfl⟩ := slice_of hrow
      have hc := hv.cell
      have hx0 : W.cell? ⟨Bx, 0, none⟩ = some (.int .u8 x.kind) := cell_of_row W Bx 0 _ 35 (0, 0) hBx
      have hx1 : W.cell? ⟨Bx, 1, none⟩ = some (.string x.text) := cell_of_row W Bx 1 _ 35 (0, 0) hBx
      have hx2 : W.cell? ⟨Bx, 2, none⟩ = some (.int .i64 x.at_) := cell_of_row W Bx 2 _ 35 (0, 0) hBx
      have hpl : acc.length ≤ pre.length := by have := tokAcc_length pre [] acc ha; simpa using this
      have hpn := pcs_length s
      have hne := Lib.hid (pcs_ne hI.keep hrow bS bW bM HV.out.lt)
      have hkl := Lib.hid (fun k hk => Nat.lt_of_lt_of_le (hKlt k hk) hI.keep.1)
      have HI := Lib.hid hI
      have HA := Lib.hid ha
      have hB := hI.below.size
      clear hI ha
      by_cases hk5 : isNote x = true
      · have HK := Lib.hid hk5
        have hk5' : (x.kind == 5) = true := hk5
        clear hk5
        gi_wp2
        refine ⟨KeepsFrom.refl _ _, Keep.refl _ _, ⟨⟨acc, _, ?_, hv, hrow⟩, HI.out.r2, HI.out.r3, HI.out.r4, HI.out.keep, HI.out.below⟩⟩
        rw [tokAcc_append pre [x] [] acc HA.out]
        simp [tokAcc, HK.out]
      · have HK := Lib.hid ((Bool.not_eq_true _).mp hk5)
        have hk5' : (x.kind == 5) = false := by simpa [isNote] using hk5
        clear hk5
        by_cases he0 : x.err = 0
        · have HE0 := Lib.hid he0
          have he0' : (x.err == 0) = true := by simpa using he0
          clear he0
          by_cases h9 : acc.length = 900
          · have H9 := Lib.hid h9
            have h9' : ((acc.length : Int) == 900) = true := by simp; omega
            clear h9
            have c2 := HI.out.r2.cell
            have c3 := HI.out.r3.cell
            have c4 := HI.out.r4.cell
            have f2 := HI.out.r2.frozen
            have f3 := HI.out.r3.frozen
            have f4 := HI.out.r4.frozen
            gi_wp2
            gi_region_with_o (fail)
            all_goals clear c2 c3 c4 f2 f3 f4 hc hx0 hx1 hx2
            all_goals gi_wp2
            all_goals (try go_bits)
            all_goals exact stop_end HI.out HA.out HK.out (.inr ⟨HE0.out, H9.out, rfl⟩)
          · have H9 := Lib.hid h9
            have h9' : ((acc.length : Int) == 900) = false := by simp; omega
            clear h9
            gi_wp2_with (gi_at_builtin; refine wpListIn_append_own _ rfl _ _ 22 rfl w.heap.size 35 i0 _ 3 32 Tryz.underlying22 hi hz0 hz1 hz2 rfl (by decide) _ _ _ rfl (hrow.alloc _) ⟨W.heap.size, 0, none⟩ 1 1 [.int .u8 x.kind, .string x.text, .int .i64 x.at_] rfl rfl (cells_new _ _ _) (by simp [Value.oneCell']) (by unfold maxLen; omega) (by omega) (by simp; omega) ?_; intro v' w2 hown' hgrow _; obtain ⟨g', cap', rfl⟩ := ownsRow_succ hown'; obtain ⟨hv1, hv2, hr2, hk2, hb2⟩ := hv.appended (by decide) hrow hB (by omega) hown' hgrow; have hc1 := hv1.cell; have hf1 := hv1.frozen)
            have hkp2 := keep_app (u := .slice (some ⟨g', 0, none⟩) (acc.length + 1) cap') hgrow hne.out hkl.out hKL
            have hI := HI.out
            refine ⟨hk2.from _, hkp2, ⟨⟨acc ++ [x], _, ?_, hv2, ?_⟩, ?_, ?_, ?_, hI.keep.trans hkp2, hI.below.trans hb2⟩⟩
            · rw [tokAcc_append pre [x] [] acc HA.out]
              simp [tokAcc, HK.out, HE0.out, H9.out]
            · rw [tokCells_append, List.length_append]
              exact hr2
            · exact box_app hI.r2 hrow hgrow (by decide) (by omega)
            · exact box_app hI.r3 hrow hgrow (by decide) (by omega)
            · exact box_app hI.r4 hrow hgrow (by decide) (by omega)
        · have HE0 := Lib.hid he0
          have he0' : (x.err == 0) = false := by simpa using he0
          have he0'' : (x.err != 0) = true := by simpa using he0
          clear he0
          have c2 := HI.out.r2.cell
          have c3 := HI.out.r3.cell
          have c4 := HI.out.r4.cell
          have f2 := HI.out.r2.frozen
          have f3 := HI.out.r3.frozen
          have f4 := HI.out.r4.frozen
          gi_wp2
          gi_region_with_o (fail)
          all_goals clear c2 c3 c4 f2 f3 f4 hc hx0 hx1 hx2
          all_goals gi_wp2
          all_goals (try go_bits)
          all_goals exact stop_end HI.out HA.out HK.out (.inl ⟨HE0.out, rfl⟩)
    case done =>
      rintro D ys W hD rfl hI hK
      obtain ⟨acc, v, ha, hv, hrow⟩ := hI.row
      obtain ⟨A, c, rfl⟩ := slice_of hrow
      have hc := hv.cell
      have c2 := hI.r2.cell
      have c3 := hI.r3.cell
      have c4 := hI.r4.cell
      have f2 := hI.r2.frozen
      have f3 := hI.r3.frozen
      have f4 := hI.r4.frozen
      have HI := Lib.hid hI
      have HA := Lib.hid ha
      have hB := hI.below.size
      have hv2 := hv
      clear hI ha
      gi_wp2
      have hI := HI.out
      have hk3 := ((KeepsOthers.setCell W ⟨w.heap.size, 0, none⟩ (.slice A acc.length c)).trans (KeepsOthers.setCell _ ⟨w.heap.size + 1, 0, none⟩ (.int .i64 0))).trans (KeepsOthers.setCell _ ⟨w.heap.size + 1 + 1, 0, none⟩ (.int .i64 0))
      have hK3 := hk3.same D _ hK rfl
      have r2 := ((hI.r2.set (.slice A acc.length c)).other (B' := w.heap.size + 1) (by omega) (.int .i64 0)).other (B' := w.heap.size + 1 + 1) (by omega) (.int .i64 0)
      have r3 := ((hI.r3.other (B' := w.heap.size) (by omega) (.slice A acc.length c)).set (.int .i64 0)).other (B' := w.heap.size + 1 + 1) (by omega) (.int .i64 0)
      have r4 := ((hI.r4.other (B' := w.heap.size) (by omega) (.slice A acc.length c)).other (B' := w.heap.size + 1) (by omega) (.int .i64 0)).set (.int .i64 0)
      have rr := row_set (row_set (row_set hrow hI.r2 (by decide) (.slice A acc.length c)) (hI.r3.other (B' := w.heap.size) (by omega) (.slice A acc.length c)) (by decide) (.int .i64 0)) ((hI.r4.other (B' := w.heap.size) (by omega) (.slice A acc.length c)).other (B' := w.heap.size + 1) (by omega) (.int .i64 0)) (by decide) (.int .i64 0)
      have hb3 := ((hI.below.setCell (p := ⟨w.heap.size, 0, none⟩) (Nat.le_refl _) (.slice A acc.length c)).setCell (p := ⟨w.heap.size + 1, 0, none⟩) (by simp) (.int .i64 0)).setCell (p := ⟨w.heap.size + 1 + 1, 0, none⟩) (by simp; omega) (.int .i64 0)
      generalize ((W.setCell ⟨w.heap.size, 0, none⟩ (.slice A acc.length c)).setCell ⟨w.heap.size + 1, 0, none⟩ (.int .i64 0)).setCell ⟨w.heap.size + 1 + 1, 0, none⟩ (.int .i64 0) = W3 at *
      have hput : ∀ r, some D = some r → ∃ o : Obj, W3.heap[r]? = some o ∧ o.isCells = false := fun r e => by cases e; exact ⟨_, hK3, rfl⟩
      refine ⟨by simp, .inl ⟨_, _, rfl, run_takeDeferred hK3, ?_⟩⟩
      refine ⟨_, results_tok (boxed_by r2 (grownBy_putObj' W3 D _) hput) (boxed_by r3 (grownBy_putObj' W3 D _) hput) (boxed_by r4 (grownBy_putObj' W3 D _) hput) rfl rfl rfl, ?_⟩
      have hl : lexTokens s = (acc, (0 : Int), 0) := by
        unfold lexTokens
        have h := tokAcc_res (pcs s) [] [] acc HA.out
        rw [List.append_nil] at h
        rw [if_pos HE.out, h]
        rfl
      rw [hl]
      exact ⟨_, rfl, hb3.trans (belowK_b (w := w) (Nat.le_refl _) W3 D _ _ (by omega) hK3 rfl rfl), ownsRow_putObj rr _ hK3 rfl⟩
    case stop =>
      rintro D c pre W hD hp ⟨rfl, hx⟩ hK
      obtain ⟨init, p, acc, y, rfl, e2, e3, e4, e5, e6⟩ := hx.res
      gi_wp2
      have hput : ∀ r, some D = some r → ∃ o : Obj, W.heap[r]? = some o ∧ o.isCells = false := fun r e => by cases e; exact ⟨_, hK, rfl⟩
      refine ⟨by simp, .inl ⟨_, _, rfl, run_takeDeferred hK, ?_⟩⟩
      refine ⟨_, results_tok (boxed_by hx.r2 (grownBy_putObj' W D _) hput) (boxed_by e5 (grownBy_putObj' W D _) hput) (boxed_by e6 (grownBy_putObj' W D _) hput) rfl rfl rfl, ?_⟩
      have hl : lexTokens s = ([], (p.at_ : Int), y) := by
        obtain ⟨rest, hrest⟩ := hp
        unfold lexTokens
        rw [if_pos HE.out, ← hrest, List.append_assoc, tokAcc_res init _ [] acc e2, List.singleton_append, tokRes, if_neg (by simp [e3])]
        rcases e4 with ⟨h1, h2⟩ | ⟨h1, h2, h3⟩
        · rw [if_pos h1, h2]
        · rw [if_neg (by simp [h1]), if_pos h2, h3]
      rw [hl]
      exact ⟨_, rfl, hx.below.trans (belowK_b (w := w) (Nat.le_refl _) W D _ _ (by omega) hK rfl rfl), World.ownsRow_nil _ _ _ _⟩
  · have HE := Lib.hid he
    have heb : ((textErr s).2 != 0) = true := by simpa using he
    clear he
    refine callsIn_wide.2 ?_
    go_enter Tryz.func4, Tryz.ntmps4
    go_wp2_with (go_at_call 15; refine (textError_any s _ (le_max hs)).mono ?_; rintro e w1 ⟨rfl, hb1⟩; obtain ⟨b2, b3, b4⟩ := three_boxes hb1; have c2 := b2.cell; have c3 := b3.cell; have c4 := b4.cell; have f2 := b2.frozen; have f3 := b3.frozen; have f4 := b4.frozen)
    have r2 := ((b2.set (.slice none 0 0)).other (B' := w.heap.size + 1) (by omega) (.int .i64 (textErr s).1)).other (B' := w.heap.size + 1 + 1) (by omega) (.int .i64 (textErr s).2)
    have r3 := ((b3.other (B' := w.heap.size) (by omega) (.slice none 0 0)).set (.int .i64 (textErr s).1)).other (B' := w.heap.size + 1 + 1) (by omega) (.int .i64 (textErr s).2)
    have r4 := ((b4.other (B' := w.heap.size) (by omega) (.slice none 0 0)).other (B' := w.heap.size + 1) (by omega) (.int .i64 (textErr s).1)).set (.int .i64 (textErr s).2)
    refine bodyPost_ret (results_tok r2 r3 r4 rfl rfl rfl) rfl ?_
    have hl : lexTokens s = ([], (textErr s).1, (textErr s).2) := by unfold lexTokens; rw [if_neg HE.out]
    rw [hl]
    refine ⟨_, rfl, ?_, World.ownsRow_nil _ _ _ _⟩
    have hb := ((((Below.refl _ w).alloc (Nat.le_refl _) _).alloc (by simp) _).alloc (by simp; omega) _).trans (hb1.mono (by simp; omega))
    exact ((hb.setCell (p := ⟨w.heap.size, 0, none⟩) (Nat.le_refl _) _).setCell (p := ⟨w.heap.size + 1, 0, none⟩) (by simp) _).setCell (p := ⟨w.heap.size + 1 + 1, 0, none⟩) (by simp; omega) _
end Go.Proofs.YtjadjmkbjolklaaGreatDoor
namespace Go.Proofs.YtjadjmkbjolklaaGreatDoor
open Go.RowKit

set_option maxHeartbeats 400000 in
theorem growth_any (x : Chg) (w : World) (h1 : x.text.size ≤ 140737488355328) (h2 : x.out.size ≤ 140737488355328) :
    Calls Tryz.prog 29 #[.agg #[.int .i64 x.from_, .int .i64 x.to_, .string x.text, .string x.out, .int .i64 x.at_]] w fun e w' => e = .returned (.int .i64 ((x.text.size : Int) - x.out.size)) ∧ Below w.heap.size w w' := by
  go_enter Tryz.func29, Tryz.ntmps29
  go_wp2
  go_ret
  exact ⟨rfl, (Below.refl _ _).alloc (Nat.le_refl _) _⟩

theorem info102 : (Tryz.prog.info? 79).map (fun i => (i.zero, i.size, i.bytes)) = some (some (.agg #[.int .i64 0, .int .i64 0, .string ByteArray.empty, .string ByteArray.empty, .int .i64 0]), 5, 56) := by kernel_rfl

theorem row_base {W : World} {n₀ : Nat} {e : TypeId} {size k : Nat} {v : Value} {xs : List Value} (h : W.ownsRow n₀ e size v k xs) {j : Nat} (ej : v.ownBlock = some j) : n₀ ≤ j := by
  rcases h.2 with ⟨rfl, _⟩ | ⟨g, cap, cur, rfl, hb, _, _⟩
  · simp [Value.ownBlock] at ej
  · obtain rfl : g = j := by simpa [Value.ownBlock] using ej
    exact hb

theorem plan_round {w wr w2 : World} {o5 : Array Value} {c0 c1 c2 c3 c4 : Value} {v : Value} {n : Nat} {xs : List Value}
    (hb2 : Below ((wr.alloc (.cells o5 40)).alloc (.cells #[c0, c1, c2, c3, c4] 79)).drew.heap.size ((wr.alloc (.cells o5 40)).alloc (.cells #[c0, c1, c2, c3, c4] 79)).drew w2)
    (hrow : wr.ownsRow w.heap.size 79 5 v n xs) (hb : Below w.heap.size w wr) :
    w2.cell? ⟨wr.heap.size + 1, 0, none⟩ = some c0 ∧ w2.cell? ⟨wr.heap.size + 1, 1, none⟩ = some c1 ∧ w2.cell? ⟨wr.heap.size + 1, 2, none⟩ = some c2 ∧ w2.cell? ⟨wr.heap.size + 1, 3, none⟩ = some c3 ∧ w2.cell? ⟨wr.heap.size + 1, 4, none⟩ = some c4 ∧
      w2.ownsRow w.heap.size 79 5 v n xs ∧ Below w.heap.size w w2 := by
  have h0 := World.alloc_heap_new (wr.alloc (.cells o5 40)) (.cells #[c0, c1, c2, c3, c4] 79)
  rw [World.size_alloc] at h0
  have hblk : w2.heap[wr.heap.size + 1]? = some (.cells #[c0, c1, c2, c3, c4] 79 (0, 0)) := (hb2.block _ (by simp)).trans h0
  refine ⟨cell_of_row w2 _ 0 _ 79 (0, 0) hblk, cell_of_row w2 _ 1 _ 79 (0, 0) hblk, cell_of_row w2 _ 2 _ 79 (0, 0) hblk, cell_of_row w2 _ 3 _ 79 (0, 0) hblk, cell_of_row w2 _ 4 _ 79 (0, 0) hblk, ?_, ?_⟩
  · exact (((hrow.alloc _).alloc _).drew).kept (only_of_below hb2 none) (by cases hv : v.ownBlock <;> simp)
  · have := hb.size
    exact (((hb.alloc hb.size _).alloc (by simp; omega) _).drew).trans (hb2.mono (by simp; omega))

set_option maxRecDepth 100000 in
set_option maxHeartbeats 2000000 in
theorem plan_any (s : ByteArray) (v : Value) (l : List Spl) (w : World) (hs : s.size ≤ 140737488355328) (hl : l.length ≤ 1000) (hin : splIn s.size l) (hv : SplIn w w.heap.size v l) :
    Calls Tryz.prog 39 #[.string s, v] w fun e w' => ∃ v', e = .returned (.tuple #[v', .int .i64 (planRes s l).2]) ∧ Below w.heap.size w w' ∧ w'.ownsRow w.heap.size 79 5 v' (planRes s l).1.length (chgCells (planRes s l).1) := by
  obtain ⟨A, c, rfl, hA⟩ := hv
  have HA := Lib.hid hA
  have HI := Lib.hid hin
  clear hA hin
  obtain ⟨i0, hi, hz0, hz1, hz2⟩ := info_parts info102
  go_enter Tryz.func39, Tryz.ntmps39
  go_wp2_with (at_make; refine wpList_make_own _ rfl _ _ 75 rfl w.heap.size 79 i0 _ 5 Tryz.underlying75 hi hz0 hz1 .i64 .i64 _ l.length rfl rfl rfl (by rw [hz2]; omega) (by unfold maxLen; omega) (Nat.le_refl _) ?_; intro w1 hown hgrow)
  have hb1 : Below w.heap.size w w1 := (Below.refl _ _).grown hgrow (Nat.le_refl _) (fun k e => by cases e)
  go_loopw [6, 7, 16] (fun v gr i wr => ∃ (k : Nat) (g : Int) (done : List Chg), k ≤ l.length ∧ i = .int .i64 k ∧ gr = .int .i64 g ∧ wr.ownsRow w.heap.size 79 5 v done.length (chgCells done) ∧ done.length ≤ k ∧
      Hid (done.length = k ∧ chgs s 0 l = done ++ chgs s g (l.drop k) ∧ grown s 0 l = grown s g (l.drop k)) ∧ -((k : Int) * 140737488355328) ≤ g ∧ g ≤ (k : Int) * 140737488355328 ∧ Below w.heap.size w wr) (fun _ _ i _ => l.length - (intOf i).toNat)
  case atStart => exact ⟨0, 0, [], by omega, rfl, rfl, hown, by simp, Lib.hid ⟨rfl, rfl, rfl⟩, by omega, by omega, hb1⟩
  case round =>
    obtain ⟨k, g, done, hk, rfl, rfl, hrow, hdk, HD, hg1, hg2, hb⟩ := hrel
    by_cases hlt : k < l.length
    · obtain ⟨x, hx⟩ : ∃ x, l[k]? = some x := ⟨_, List.getElem?_eq_getElem hlt⟩
      obtain ⟨b, off, rfl, hB, h1, h2, h3⟩ := HA.out k x hx
      obtain ⟨x1, x2, x3, x4⟩ := HI.out x (List.mem_of_getElem? hx)
      have HX := Lib.hid hx
      have d1 := (hb.cell (p := ⟨b, _, none⟩) hB).trans h1
      have d2 := (hb.cell (p := ⟨b, _, none⟩) hB).trans h2
      have d3 := (hb.cell (p := ⟨b, _, none⟩) hB).trans h3
      clear h1 h2 h3 hx hown
      have hsz := hb.size
      obtain ⟨A', c', rfl⟩ := slice_of hrow
      go_wp2_with fail
      go_region
      have ho : (s.extract x.from_.toNat x.to_.toNat).size ≤ s.size := by simp; omega
      generalize hO : s.extract x.from_.toNat x.to_.toNat = o at ho ⊢
      have HO := Lib.hid hO
      clear hO d1 d2 d3
      have C72 := Lib.hid (fun w => growth_any ⟨x.from_, x.to_, x.text, o, x.from_ + g⟩ w x4 (by show o.size ≤ _; omega))
      go_wp2_with (first
        | (go_at_call 29; refine (C72.out _).mono ?_; rintro e w2 ⟨rfl, hb2⟩; obtain ⟨e0, e1, e2, e3, e4, hrow2, hB2⟩ := plan_round hb2 hrow hb; have hsz2 := hB2.size; clear hb2 C72)
        | (at_builtin; refine wpList_append_own _ rfl _ _ 75 rfl w.heap.size 79 i0 _ 5 56 Tryz.underlying75 hi hz0 hz1 hz2 rfl (by decide) _ _ _ rfl (hrow2.alloc _) ⟨w2.heap.size, 0, none⟩ 1 1 [.int .i64 x.from_, .int .i64 x.to_, .string x.text, .string o, .int .i64 (x.from_ + g)] rfl rfl (cells_new _ _ _) (by simp [Value.oneCell']) (by unfold maxLen; omega) (by omega) (by simp; omega) ?_; intro v' w3 hown' hgrow' _))
      have hb3 : Below w.heap.size w w3 := (hB2.alloc hsz2 _).grown hgrow' (by simp; omega) (fun k e => row_base hrow2 e)
      go_roundw
      case rel =>
        refine ⟨k + 1, _, done ++ [⟨x.from_, x.to_, x.text, o, x.from_ + g⟩], by omega, by go_num, rfl, ?_, by simp; omega, Lib.hid ⟨by rw [List.length_append, HD.out.1]; rfl, ?_, ?_⟩, by omega, by omega, hb3⟩
        · rw [chgCells_append, List.length_append]
          exact hown'
        · rw [HD.out.2.1, chgs_step s g l k x HX.out, HO.out]
          simp
        · rw [HD.out.2.2, grown_step s g l k x HX.out, HO.out]
      case measure => simp [intOf]; omega
    · have hkl : k = l.length := by omega
      have h1 := HD.out
      rw [List.drop_eq_nil_of_le (by omega)] at h1
      have HE : Hid (chgs s 0 l = done ∧ grown s 0 l = g) := Lib.hid ⟨by rw [h1.2.1]; simp [chgs], by rw [h1.2.2]; rfl⟩
      clear h1 hkl HD
      by_cases hg : 2500 < (s.size : Int) + g
      · have hp : Hid (planRes s l = ([], 5)) := Lib.hid (by unfold planRes; rw [HE.out.2, if_pos hg])
        go_wp2
        go_ret2
        rw [hp.out]
        exact ⟨_, rfl, hb, World.ownsRow_nil _ _ _ _⟩
      · have hp : Hid (planRes s l = (done, 0)) := Lib.hid (by unfold planRes; rw [HE.out.2, if_neg hg, HE.out.1])
        go_wp2
        go_ret2
        rw [hp.out]
        exact ⟨_, rfl, hb, hrow⟩
end Go.Proofs.YtjadjmkbjolklaaGreatDoor
