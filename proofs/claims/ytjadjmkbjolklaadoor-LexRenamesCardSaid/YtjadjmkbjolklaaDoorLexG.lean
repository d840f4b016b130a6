/- The contract of lex.pieces and its closure. -/
import Derived.RangeFuncNested
import Derived.RangeFuncBound
import Derived.RangeFuncCalls
import Derived.RangeFuncLeaves
import Derived.Shelf.Abstract
import Derived.Shelf.RegionOpen
import Derived.WalkKit
import Derived.OwnWalkIn
import Derived.TacticsInMore
import Derived.LoopNIn
import Derived.LoopIn
import Derived.Deep.RegionWith
import Derived.Test.YtjadjmkbjolklaaDoorPure3
namespace Go.Proofs.YtjadjmkbjolklaaDoor
open Go.RowKit Go.Shelf
attribute [local go_sem] Oper.semAt_some

/-- The blocks K are as they were. -/
def Keep (K : List Nat) (W W' : World) : Prop := W.heap.size ≤ W'.heap.size ∧ ∀ k ∈ K, W'.heap[k]? = W.heap[k]?
theorem Keep.refl (K : List Nat) (W : World) : Keep K W W := ⟨Nat.le_refl _, fun _ _ => rfl⟩
theorem Keep.trans {K : List Nat} {A B C : World} (h : Keep K A B) (h' : Keep K B C) : Keep K A C := ⟨Nat.le_trans h.1 h'.1, fun k hk => (h'.2 k hk).trans (h.2 k hk)⟩
theorem Keep.of_below {K : List Nat} {A B : World} (h : Below A.heap.size A B) (hK : ∀ k ∈ K, k < A.heap.size) : Keep K A B := ⟨h.size, fun k hk => h.block k (hK k hk)⟩
theorem Keep.cell {K : List Nat} {A B : World} (h : Keep K A B) {p : Addr} (hp : p.block ∈ K) : B.cell? p = A.cell? p := World.cell?_of_block (w := A) (h.2 p.block hp)

theorem only_of_below {a w : World} (h : Below a.heap.size a w) (row : Option Nat) : a.grownBy w row := ⟨h.os, h.tape, h.output, h.size, fun i hi _ => h.block i hi⟩

def Piece.vals (x : Piece) : Array Value := #[.agg #[.int .u8 x.kind, .string x.text, .int .i64 x.at_], .int .i64 x.err]

/-- What the closure of lex.pieces reads: its text, its map, and the variables of strconv. -/
structure PcsWorld (s : ByteArray) (bs bw bm : Nat) (W : World) : Prop where
  text : W.cell? ⟨bs, 0, none⟩ = some (.string s)
  words : W.cell? ⟨bw, 0, none⟩ = some (.map (some bm))
  map : KwMap W bm
  vars : NumVars W
  ltS : bs < W.heap.size
  ltW : bw < W.heap.size

def pcsBlocks (bs bw bm : Nat) : List Nat := [bs, bw, bm, 2, 1]

theorem PcsWorld.keep {s : ByteArray} {bs bw bm : Nat} {W W' : World} (h : PcsWorld s bs bw bm W) (hk : Keep (pcsBlocks bs bw bm) W W') : PcsWorld s bs bw bm W' where
  text := (hk.cell (p := ⟨bs, 0, none⟩) (by simp [pcsBlocks])).trans h.text
  words := (hk.cell (p := ⟨bw, 0, none⟩) (by simp [pcsBlocks])).trans h.words
  map := (hk.2 bm (by simp [pcsBlocks])).trans h.map
  vars := by
    obtain ⟨⟨t, p, e⟩, ⟨t', p', e'⟩⟩ := h.vars
    refine ⟨⟨t, p, ?_⟩, ⟨t', p', ?_⟩⟩
    · unfold World.var? at e ⊢
      rw [gRange] at e ⊢
      simp only [Option.bind_some] at e ⊢
      rw [hk.2 _ (by simp [pcsBlocks])]
      exact e
    · unfold World.var? at e' ⊢
      rw [gSyntax] at e' ⊢
      simp only [Option.bind_some] at e' ⊢
      rw [hk.2 _ (by simp [pcsBlocks])]
      exact e'
  ltS := Nat.lt_of_lt_of_le h.ltS hk.1
  ltW := Nat.lt_of_lt_of_le h.ltW hk.1

theorem PcsWorld.below {s : ByteArray} {bs bw bm : Nat} {W w' : World} (h : PcsWorld s bs bw bm W) (hb : Below W.heap.size W w') : PcsWorld s bs bw bm w' :=
  h.keep (Keep.of_below hb (by
    intro k hk
    simp only [pcsBlocks, List.mem_cons, List.not_mem_nil, or_false] at hk
    have h1 := h.ltS
    have h2 := h.ltW
    have h3 := h.map.lt
    have h4 := h.vars.lt
    omega))

theorem PcsWorld.drew {s : ByteArray} {bs bw bm : Nat} {W : World} (h : PcsWorld s bs bw bm W) : PcsWorld s bs bw bm W.drew := h.keep ⟨Nat.le_refl _, fun _ _ => rfl⟩

set_option maxRecDepth 100000 in
set_option maxHeartbeats 2000000 in
theorem pieces1_in (n : Nat) (hn : 3 ≤ n) (l bs bw bm : Nat) (s : ByteArray) (hs : s.size ≤ 140737488355328) (J Jx : List Piece → World → Prop) (W0 : World)
    (hJa : AbidesFrom W0.heap.size J)
    (hY : ∀ pre x W, J pre W → pre.length < (pcs s).length → YieldAt Fence.wide (n - 1) Tryd.prog l (Piece.vals x) W fun e W' =>
      (e = .returned (.bool true) ∧ J (pre ++ [x]) W' ∧ Keep (pcsBlocks bs bw bm) W W') ∨ (e = .returned (.bool false) ∧ Jx (pre ++ [x]) W'))
    (hW : PcsWorld s bs bw bm W0) (h0 : J [] W0) :
    CallsIn Fence.wide n Tryd.prog 84 #[.func (.yield l) #[] #[], .pointer (some ⟨bs, 0, none⟩), .pointer (some ⟨bw, 0, none⟩)] W0 fun e W' => (∃ v, e = .returned v) ∧
      ((∃ xs, xs = pcs s ∧ J xs W') ∨ (∃ pre, pre <+: pcs s ∧ Jx pre W')) := by
  have hc1 := hW.text
  have hlt1 := hW.ltS
  have h1 : 1 ≤ n := by omega
  have HW := Lib.hid (hW.below (w' := W0.alloc (.cells #[.int .u8 1] 111)) ((Below.refl _ _).alloc (Nat.le_refl _) _))
  have HJ := Lib.hid (hJa [] W0 (W0.alloc (.cells #[.int .u8 1] 111)) none h0 (only_of_below ((Below.refl _ _).alloc (Nat.le_refl _) _) none) (by simp))
  have HF := Lib.hid hW
  clear hW h0
  refine callsIn_of_wp Tryd.func84 rfl trivial ?_ rfl
  simp only [Tryd.ntmps84, List.size_toArray, List.length_cons, List.length_nil, Nat.reduceAdd, Nat.reduceSub, Array.replicate_succ, Array.replicate_zero, List.push_toArray, List.append_toArray, List.nil_append, List.cons_append]
  gi_wp2_with (refine ⟨trivial, ?_⟩; gi_at_call 85; refine (callsIn_wide.2 (past1 1 s _ _ (le_max hs) (by omega) (by omega))).mono ?_; rintro e w' ⟨rfl, rfl⟩)
  gi_loopw [4] (fun i wr => ∃ (pre : List Piece) (k f : Nat), i = .int .i64 k ∧ k ≤ s.size ∧ Hid (pcs s = pre ++ pcsFrom s f k ∧ s.size - k ≤ f) ∧ Hid (J pre wr) ∧ PcsWorld s bs bw bm wr)
    (fun i _ => s.size - (intOf i).toNat)
  case atStart => exact ⟨[], _, s.size, rfl, pastP_le _ _ _ (by omega), Lib.hid ⟨rfl, by omega⟩, HJ, HW.out⟩
  case round =>
    obtain ⟨pre, k, f, rfl, hk, hpc, hJs, hP⟩ := hrel
    have hcS := hP.text
    have hcW := hP.words
    have hlS := hP.ltS
    have hlW := hP.ltW
    have HP := Lib.hid hP
    clear hc1 hlt1 hP
    by_cases hlt : k < s.size
    · obtain ⟨en, hen⟩ : ∃ en, en = pieceEndP s k := ⟨_, rfl⟩
      have hg1 : k < en := by rw [hen]; exact pieceEndP_gt s k hlt
      have hg2 : en ≤ s.size := by rw [hen]; exact pieceEndP_le s k hlt
      have C86 : Hid (∀ w, CallsIn Fence.wide (n - 1) Tryd.prog 86 #[.string s, .int .i64 k] w fun e w' => e = .returned (.int .i64 en) ∧ Below w.heap.size w w') := by
        intro w
        have h := pieceEnd_any s k w hs (by omega) (by omega)
        rw [Int.toNat_natCast, ← hen] at h
        exact callsIn_wide.2 h
      have HEN := Lib.hid hen
      clear hen
      gi_wp2_with (refine ⟨trivial, ?_⟩; gi_at_call 86; refine (C86.out _).mono ?_; rintro e w1 ⟨rfl, hb1⟩)
      refine wpIn_wide.2 ?_
      have HP1 := Lib.hid (HP.out.below hb1)
      have hcS1 := HP1.out.text
      have hcW1 := HP1.out.words
      clear hcS hcW
      have C87 : Hid (∀ w, PcsWorld s bs bw bm w → Calls Tryd.prog 87 #[.string (s.extract k en), .map (some bm)] w fun e w' => e = .returned (.tuple #[.int .u8 (kindP (s.extract k en)).1, .int .i64 (kindP (s.extract k en)).2]) ∧ Below w.heap.size w w') := by
        intro w hw
        exact kindOf_any _ bm w (by simp; omega) (by simp; omega) hw.vars hw.map
      go_region_with (go_at_call 87; refine (C87.out _ HP1.out.drew).mono ?_; rintro e w2 ⟨rfl, hb2⟩)
      all_goals (
        have HP2 := Lib.hid (HP1.out.drew.below hb2)
        have hcS2 := HP2.out.text
        have hcW2 := HP2.out.words
        have hlS2 := HP2.out.ltS
        have hlW2 := HP2.out.ltW
        have HB := Lib.hid (hb1.drew.trans (hb2.mono hb1.size))
        have hcE : k + 1 ≤ en := hg1
        clear C86 C87 hcS1 hcW1 hb1 hb2
        by_cases h5 : (kindP (s.extract k en)).1 = 5)
      all_goals first
        | (have h5b : ((kindP (s.extract k en)).1 == 5) = true := by simpa using h5
           obtain ⟨f', hf1, hf2⟩ := pcsFrom_step s f k hlt hpc.out.2
           have hx : pieceAt s k = ⟨(kindP (s.extract k en)).1, s.extract (k + 1) en, k, (kindP (s.extract k en)).2⟩ := by unfold pieceAt; rw [← HEN.out]; simp [h5]
           have HS := Lib.hid (show pcs s = (pre ++ [⟨(kindP (s.extract k en)).1, s.extract (k + 1) en, k, (kindP (s.extract k en)).2⟩]) ++ pcsFrom s f' (pastP (inCls [1]) s en) by rw [hpc.out.1, hf1, hx, ← HEN.out]; simp)
           have HF2 := Lib.hid (show s.size - pastP (inCls [1]) s en ≤ f' by rw [HEN.out]; exact hf2)
           have HN := Lib.hid (show pre.length < (pcs s).length by rw [HS.out]; simp)
           clear h5 hf1 hf2 hx
           obtain ⟨fn, tmps, assign, body, hy, hR⟩ := hY pre ⟨(kindP (s.extract k en)).1, s.extract (k + 1) en, k, (kindP (s.extract k en)).2⟩ (w2.alloc (.cells #[.int .u8 (kindP (s.extract k en)).1, .string (s.extract (k + 1) en), .int .i64 k] 63))
             (hJa pre wr _ none hJs.out (only_of_below (HB.out.alloc HB.out.size _) none) (by simp)) HN.out)
        | (have h5b : ((kindP (s.extract k en)).1 == 5) = false := by simpa using h5
           obtain ⟨f', hf1, hf2⟩ := pcsFrom_step s f k hlt hpc.out.2
           have hx : pieceAt s k = ⟨(kindP (s.extract k en)).1, s.extract k en, k, (kindP (s.extract k en)).2⟩ := by unfold pieceAt; rw [← HEN.out]; simp [h5]
           have HS := Lib.hid (show pcs s = (pre ++ [⟨(kindP (s.extract k en)).1, s.extract k en, k, (kindP (s.extract k en)).2⟩]) ++ pcsFrom s f' (pastP (inCls [1]) s en) by rw [hpc.out.1, hf1, hx, ← HEN.out]; simp)
           have HF2 := Lib.hid (show s.size - pastP (inCls [1]) s en ≤ f' by rw [HEN.out]; exact hf2)
           have HN := Lib.hid (show pre.length < (pcs s).length by rw [HS.out]; simp)
           clear h5 hf1 hf2 hx
           obtain ⟨fn, tmps, assign, body, hy, hR⟩ := hY pre ⟨(kindP (s.extract k en)).1, s.extract k en, k, (kindP (s.extract k en)).2⟩ (w2.alloc (.cells #[.int .u8 (kindP (s.extract k en)).1, .string (s.extract k en), .int .i64 k] 63))
             (hJa pre wr _ none hJs.out (only_of_below (HB.out.alloc HB.out.size _) none) (by simp)) HN.out)
      all_goals (dsimp only [Piece.vals] at hy; clear HN)
      all_goals gi_wp2_with fail
      all_goals refine hR.mono ?_
      all_goals clear hy hR
      all_goals rintro e W4 (⟨rfl, hJ4, hk4⟩ | ⟨rfl, hJx4⟩)
      all_goals first
        | (have HP4 := Lib.hid ((HP2.out.below ((Below.refl _ _).alloc (Nat.le_refl _) _)).keep hk4)
           have hcS4 := HP4.out.text
           have hl4 := HP4.out.ltS
           have HJ5 := Lib.hid (hJa _ W4 (W4.alloc (.cells #[.int .u8 1] 111)) none hJ4 (only_of_below ((Below.refl _ _).alloc (Nat.le_refl _) _) none) (by simp))
           have HP5 := Lib.hid (HP4.out.below (w' := W4.alloc (.cells #[.int .u8 1] 111)) ((Below.refl _ _).alloc (Nat.le_refl _) _))
           clear hJ4 hk4 hcS2 hcW2
           gi_wp2_with (refine ⟨trivial, ?_⟩; gi_at_call 85; refine (callsIn_wide.2 (past1 1 s _ _ (le_max hs) (by omega) (by omega))).mono ?_; rintro e w' ⟨rfl, rfl⟩)
           go_roundw
           case rel => exact ⟨_, pastP (inCls [1]) s en, _, rfl, pastP_le _ _ _ hg2, Lib.hid ⟨HS.out, HF2.out⟩, HJ5, HP5.out⟩
           case measure => simp [intOf]; have := pastP_ge (inCls [1]) s en; have := pastP_le (inCls [1]) s en hg2; omega)
        | (have HJ5 := Lib.hid hJx4
           clear hJx4
           gi_wp2
           refine bodyPost_ret (results_none rfl _ _ _) rfl ?_
           exact ⟨⟨_, rfl⟩, .inr ⟨_, ⟨_, HS.out.symm⟩, HJ5.out⟩⟩)
    · gi_wp2
      go_end0
      refine ⟨⟨_, rfl⟩, .inl ⟨_, rfl, ?_⟩⟩
      rw [hpc.out.1, pcsFrom_end s f k (by omega), List.append_nil]
      exact hJs.out
end Go.Proofs.YtjadjmkbjolklaaDoor
