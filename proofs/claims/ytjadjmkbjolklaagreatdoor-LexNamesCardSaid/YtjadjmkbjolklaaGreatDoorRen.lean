/- The contracts of the reference's IsRight, IsName, Rename, and of LexRenames; what names are. -/
import Derived.Test.YtjadjmkbjolklaaGreatDoorTokH
import Derived.Test.YtjadjmkbjolklaaGreatDoorSplF
namespace Go.Proofs.YtjadjmkbjolklaaGreatDoor
open Go.RowKit

theorem ext_all {r : ByteArray} {e : Nat} (h : e ≤ r.size) : r.extract 0 e = r ↔ ¬ e < r.size := by
  constructor
  · intro h1 h2
    have := congrArg ByteArray.size h1
    simp at this
    omega
  · intro h1
    obtain rfl : e = r.size := by omega
    apply ByteArray.ext
    apply Array.ext'
    simp

/-- The reference's IsRight says what lex's says. -/
theorem right_eq (k : Int) (r : ByteArray) (h : 0 < r.size) : isRightP k r = (decide ((tokRef r 0).2.2 = 0) && (decide ((tokRef r 0).1 = k) && decide ((tokRef r 0).2.1 = r))) := by
  have hle := pieceEndP_le r 0 h
  have hea := ext_all hle
  unfold isRightP tokRef
  by_cases h6 : cls (r[0]!).toNat = 6
  · have hk : (kindP r).1 = 5 := by
      unfold kindP
      rw [h6]
      rfl
    rw [if_pos h6, hk]
    simp
  · rw [if_neg h6]
    by_cases he : pieceEndP r 0 < r.size
    · have hne : ¬ r.extract 0 (pieceEndP r 0) = r := fun e => (hea.1 e) he
      have h0 : ¬ (⟨#[]⟩ : ByteArray) = r := by
        intro e
        rw [← e] at h
        simp [ByteArray.size] at h
      split
      · simp [he, hne]
      · rename_i hk
        simp [he, hk]
    · have hx := hea.2 he
      rw [hx]
      have h5 : (kindP r).1 ≠ 5 := by
        unfold kindP
        repeat' split
        all_goals first
          | exact absurd ‹_ = (6 : Int)› h6
          | (dsimp only; decide)
      split
      · rename_i hk
        simp [h, he, hk, h5]
      · rename_i hk
        simp [hk]

/-- The kind of a token is what its text says. -/
theorem tok_kind {s : ByteArray} (h : (lexTokens s).2.2 = 0) : ∀ x ∈ (lexTokens s).1, x.kind = (kindP x.text).1 := by
  obtain ⟨_, h2, _, _, _⟩ := lexTokens_ok h
  have h3 := tokAcc_filter _ _ _ h2
  rw [h3, List.nil_append]
  intro x hx
  obtain ⟨h4, h5⟩ := List.mem_filter.1 hx
  have hpc : ∀ (f k : Nat), ∀ y ∈ pcsFrom s f k, ∃ j, y = pieceAt s j := by
    intro f
    induction f with
    | zero => intro k y hy; cases hy
    | succ f ih =>
      intro k y hy
      rw [pcsFrom] at hy
      split at hy
      · cases hy with
        | head => exact ⟨k, rfl⟩
        | tail _ hy => exact ih _ y hy
      · cases hy
  obtain ⟨j, rfl⟩ := hpc _ _ x h4
  have h6 : (pieceAt s j).kind ≠ 5 := by simpa [isNote] using h5
  unfold pieceAt at h6 ⊢
  dsimp only at h6 ⊢
  rw [if_neg h6]

theorem name_kind {s y : ByteArray} (h : (lexTokens s).2.2 = 0) (hy : isRightP 1 y = true) : ∀ x ∈ (lexTokens s).1, x.text = y → x.kind = 1 := by
  intro x hx e
  rw [tok_kind h x hx, e]
  unfold isRightP at hy
  simp only [Bool.and_eq_true, decide_eq_true_eq] at hy
  exact hy.2.2.2.1
/-- How the reference's Rename stands. -/
structure RenP (s old name : ByteArray) (l : List Piece) (k f mn : Nat) (done : ByteArray) (tw : Bool) : Prop where
  after : aftS s 0 (renSpls old name l) = done.data.toList ++ aftS s f (renSpls old name (l.drop k))
  ord : pcOrd s.size f (l.drop k)
  many : mn = 0 ↔ renSpls old name (l.take k) = []
  twice : tw = (l.take k).any (fun t => decide (t.text = name))

theorem ren_start {s old name : ByteArray} {l : List Piece} (h : pcOrd s.size 0 l) : RenP s old name l 0 0 0 ⟨#[]⟩ false := ⟨rfl, h, by simp [renSpls], rfl⟩

theorem ren_drop {old name : ByteArray} {l : List Piece} {k : Nat} {x : Piece} (h : l[k]? = some x) :
    renSpls old name (l.drop k) = if x.text = old then ⟨x.at_, x.at_ + old.size, name⟩ :: renSpls old name (l.drop (k + 1)) else renSpls old name (l.drop (k + 1)) := by
  obtain ⟨hk, rfl⟩ := List.getElem?_eq_some_iff.1 h
  rw [List.drop_eq_getElem_cons hk, renSpls]

theorem ord_drop {n f : Nat} {l : List Piece} {k : Nat} {x : Piece} (h : l[k]? = some x) (ho : pcOrd n f (l.drop k)) : f ≤ x.at_ ∧ x.at_ + x.text.size ≤ n ∧ pcOrd n (x.at_ + x.text.size) (l.drop (k + 1)) := by
  obtain ⟨hk, rfl⟩ := List.getElem?_eq_some_iff.1 h
  rw [List.drop_eq_getElem_cons hk] at ho
  exact ho

theorem ren_skip {s old name : ByteArray} {l : List Piece} {k f mn : Nat} {done : ByteArray} {tw : Bool} {x : Piece} (h : RenP s old name l k f mn done tw) (hx : l[k]? = some x) (ho : x.text ≠ old) :
    RenP s old name l (k + 1) f mn done (tw || decide (x.text = name)) := by
  refine ⟨?_, ?_, ?_, ?_⟩
  · rw [h.after, ren_drop hx, if_neg ho]
  · obtain ⟨h1, h2, h3⟩ := ord_drop hx h.ord
    exact pcOrd_mono _ _ _ _ (by omega) h3
  · rw [renSpls_take hx, if_neg ho, List.append_nil]
    exact h.many
  · rw [any_take hx, h.twice]

theorem ren_put {s old name : ByteArray} {l : List Piece} {k f mn : Nat} {done : ByteArray} {tw : Bool} {x : Piece} (h : RenP s old name l k f mn done tw) (hx : l[k]? = some x) (ho : x.text = old) :
    RenP s old name l (k + 1) (x.at_ + old.size) (mn + 1) (done ++ (s.extract f x.at_ ++ name)) (tw || decide (x.text = name)) := by
  obtain ⟨h1, h2, h3⟩ := ord_drop hx h.ord
  rw [ho] at h2 h3
  refine ⟨?_, h3, ?_, ?_⟩
  · rw [h.after, ren_drop hx, if_pos ho, aftS_cons, ← Int.natCast_add, Int.toNat_natCast, Int.toNat_natCast]
    simp only [ByteArray.data_append, Array.toList_append, ext_list]
    simp
  · rw [renSpls_take hx, if_pos ho]
    simp
  · rw [any_take hx, h.twice]

theorem ren_size {s old name : ByteArray} {l : List Piece} (h : pcOrd s.size 0 l) : ((aftS s 0 (renSpls old name l)).length : Int) = (s.size : Int) + grown s 0 (renSpls old name l) := by
  have := (chgs_ord s (renSpls old name l) 0 0 (Int.le_refl 0) (by omega) (renSpls_right s.size old name l 0 h)).2
  simp only [Int.toNat_zero] at this
  unfold aftS
  omega

theorem ren_res {s old name : ByteArray} (he : (lexTokens s).2.2 = 0) (h1 : isRightP 1 old = true) (h2 : isRightP 1 name = true) {mn : Nat} {done : ByteArray} {tw : Bool} (ho : pcOrd s.size 0 (lexTokens s).1)
    (hd : aftS s 0 (renSpls old name (lexTokens s).1) = done.data.toList) (hm : mn = 0 ↔ renSpls old name (lexTokens s).1 = []) (ht : tw = (lexTokens s).1.any (fun t => decide (t.text = name))) :
    renameRes s old name = if mn = 0 then ([], 7) else if tw = true then ([], 6) else if 2500 < done.size then ([], 5) else (done.data.toList, 0) := by
  have hs := ren_size (old := old) (name := name) ho
  rw [hd] at hs
  have e : done.data.toList.length = done.size := by simp
  rw [e] at hs
  unfold renameRes
  rw [if_neg (by rw [he]; simp), if_neg (by rw [h1, h2]; simp), ← ht]
  by_cases h0 : mn = 0
  · rw [if_pos h0, if_pos (hm.1 h0)]
  · rw [if_neg h0, if_neg (fun e => h0 (hm.2 e))]
    by_cases htw : tw = true
    · rw [if_pos htw, if_pos htw]
    · rw [if_neg htw, if_neg htw]
      by_cases h25 : 2500 < done.size
      · have hp : (planRes s (renSpls old name (lexTokens s).1)).2 = 5 := by
          unfold planRes
          rw [if_pos (by omega)]
        rw [if_pos h25, hp, if_pos (by decide)]
      · have hp : (planRes s (renSpls old name (lexTokens s).1)).2 = 0 := by
          unfold planRes
          rw [if_neg (by omega)]
        rw [if_neg h25, hp, if_neg (by simp)]
        show (aftS s 0 _, (0 : Int)) = _
        rw [hd]

theorem ret_sv (D : ByteArray) : Ending.returned (.tuple #[.string D, .int .i64 0]) = .returned (.tuple #[.string ⟨D.data.toList.toArray⟩, .int .i64 0]) := rfl

end Go.Proofs.YtjadjmkbjolklaaGreatDoor
