/- The contracts of the reference's IsRight, IsName, Rename, and of LexRenames; what names are. -/
import Derived.Test.YtjadjmkbjolklaaDoorTokH
import Derived.Test.YtjadjmkbjolklaaDoorSplF
namespace Go.Proofs.YtjadjmkbjolklaaDoor
open Go.RowKit

theorem ext_all {r : ByteArray} {e : Nat} (h : e ≤ r.size) : r.extract 0 e = r ↔ ¬ e < r.size := by
  constructor
  · intro h1 h2
    have := congrArg ByteArray.size h1
    simp at this
    omega
  · intro h1
    obtain rfl : e = r.size := by omega
    apply ByteArray.ext
    apply Array.ext'
    simp

/-- The reference's IsRight says what lex's says. -/
theorem right_eq (k : Int) (r : ByteArray) (h : 0 < r.size) : isRightP k r = (decide ((tokRef r 0).2.2 = 0) && (decide ((tokRef r 0).1 = k) && decide ((tokRef r 0).2.1 = r))) := by
  have hle := pieceEndP_le r 0 h
  have hea := ext_all hle
  unfold isRightP tokRef
  by_cases h6 : cls (r[0]!).toNat = 6
  · have hk : (kindP r).1 = 5 := by
      unfold kindP
      rw [h6]
      rfl
    rw [if_pos h6, hk]
    simp
  · rw [if_neg h6]
    by_cases he : pieceEndP r 0 < r.size
    · have hne : ¬ r.extract 0 (pieceEndP r 0) = r := fun e => (hea.1 e) he
      have h0 : ¬ (⟨#[]⟩ : ByteArray) = r := by
        intro e
        rw [← e] at h
        simp [ByteArray.size] at h
      split
      · simp [he, hne]
      · rename_i hk
        simp [he, hk]
    · have hx := hea.2 he
      rw [hx]
      have h5 : (kindP r).1 ≠ 5 := by
        unfold kindP
        repeat' split
        all_goals first
          | exact absurd ‹_ = (6 : Int)› h6
          | (dsimp only; decide)
      split
      · rename_i hk
        simp [h, he, hk, h5]
      · rename_i hk
        simp [hk]

set_option maxRecDepth 100000 in
set_option maxHeartbeats 1000000 in
theorem refIsRight_any (k a : Int) (r : ByteArray) (w : World) (hs : r.size ≤ 140737488355328) :
    Calls Tryd.prog 99 #[.agg #[.int .u8 k, .string r, .int .i64 a]] w fun e w' => e = .returned (.bool (isRightP k r)) ∧ Below w.heap.size w w' := by
  have hbx := Box3.new w k r a
  have hb0 := (Below.refl w.heap.size w).alloc (Nat.le_refl _) (.cells #[.int .u8 k, .string r, .int .i64 a] 63)
  have e0 := hbx.c0
  have e1 := hbx.c1
  by_cases h0 : 0 < r.size
  · have hne : r.toList.isEmpty = false := by
      rw [Lib.toList_data, List.isEmpty_eq_false_iff]
      intro e
      have e1 : r.data.toList.length = r.size := by simp
      rw [e] at e1
      have e2 : 0 = r.size := e1
      omega
    have HR := Lib.hid (right_eq k r h0)
    have C89 : Hid (∀ w, Calls Tryd.prog 89 #[.string r, .int .i64 0] w fun e w' => e = .returned (tokVal r 0) ∧ Below w.heap.size w w') := Lib.hid (fun w => refToken_any r 0 w hs h0)
    unfold tokVal at C89
    generalize (if (tokRef r 0).2.2 = 0 then ((0 : Nat) : Int) else 0) = p at C89
    generalize (tokRef r 0).1 = k' at C89 HR
    generalize (tokRef r 0).2.1 = t' at C89 HR
    generalize (tokRef r 0).2.2 = er at C89 HR
    by_cases her : er = 0
    · have q1 : (er == 0) = true := by simpa using her
      by_cases hk : k' = k
      · have q2 : (k' == k) = true := by simpa using hk
        have HF := Lib.hid (show isRightP k r = (t'.toList == r.toList) by rw [HR.out, toList_beq]; simp [her, hk])
        clear her hk
        go_enter Tryd.func99, Tryd.ntmps99
        go_wp2_with (go_at_call 89; refine (C89.out _).mono ?_; rintro e w2 ⟨rfl, hb2⟩; have hx2 := (hbx.below hb2 hbx.lt); have hx3 := hx2.below ((Below.refl _ _).alloc (Nat.le_refl _) (.cells #[.int .u8 k', .string t', .int .i64 p] 63)) hx2.lt; have hy := Box3.new w2 k' t' p; have g0 := hx3.c0; have g1 := hx3.c1; have y0 := hy.c0; have y1 := hy.c1; have HBX := Lib.hid ((hb0.trans (hb2.mono hb0.size)).alloc (Nat.le_trans hb0.size hb2.size) (.cells #[.int .u8 k', .string t', .int .i64 p] 63)); clear hb2 hx2 hx3 hy)
        go_ret
        refine ⟨ret_bool HF.out.symm, HBX.out⟩
      · have q2 : (k' == k) = false := by simpa using hk
        have HF := Lib.hid (show isRightP k r = false by rw [HR.out]; simp [hk])
        clear her hk
        go_enter Tryd.func99, Tryd.ntmps99
        go_wp2_with (go_at_call 89; refine (C89.out _).mono ?_; rintro e w2 ⟨rfl, hb2⟩; have hx2 := (hbx.below hb2 hbx.lt); have hx3 := hx2.below ((Below.refl _ _).alloc (Nat.le_refl _) (.cells #[.int .u8 k', .string t', .int .i64 p] 63)) hx2.lt; have hy := Box3.new w2 k' t' p; have g0 := hx3.c0; have g1 := hx3.c1; have y0 := hy.c0; have y1 := hy.c1; have HBX := Lib.hid ((hb0.trans (hb2.mono hb0.size)).alloc (Nat.le_trans hb0.size hb2.size) (.cells #[.int .u8 k', .string t', .int .i64 p] 63)); clear hb2 hx2 hx3 hy)
        go_ret
        refine ⟨ret_bool HF.out.symm, HBX.out⟩
    · have q1 : (er == 0) = false := by simpa using her
      have HF := Lib.hid (show isRightP k r = false by rw [HR.out]; simp [her])
      clear her
      go_enter Tryd.func99, Tryd.ntmps99
      go_wp2_with (go_at_call 89; refine (C89.out _).mono ?_; rintro e w2 ⟨rfl, hb2⟩; have hx2 := (hbx.below hb2 hbx.lt); have hx3 := hx2.below ((Below.refl _ _).alloc (Nat.le_refl _) (.cells #[.int .u8 k', .string t', .int .i64 p] 63)) hx2.lt; have hy := Box3.new w2 k' t' p; have g0 := hx3.c0; have g1 := hx3.c1; have y0 := hy.c0; have y1 := hy.c1; have HBX := Lib.hid ((hb0.trans (hb2.mono hb0.size)).alloc (Nat.le_trans hb0.size hb2.size) (.cells #[.int .u8 k', .string t', .int .i64 p] 63)); clear hb2 hx2 hx3 hy)
      go_ret
      refine ⟨ret_bool HF.out.symm, HBX.out⟩
  · have HF := Lib.hid (show isRightP k r = false by unfold isRightP; simp [h0])
    have hne : r.toList.isEmpty = true := by
      rw [Lib.toList_data, List.isEmpty_iff]
      have e1 : r.data.toList.length = r.size := by simp
      exact List.eq_nil_of_length_eq_zero (by omega)
    clear h0
    go_enter Tryd.func99, Tryd.ntmps99
    go_wp2_with fail
    go_ret
    exact ⟨ret_bool HF.out.symm, hb0⟩

theorem refIsName_any (r : ByteArray) (w : World) (hs : r.size ≤ 140737488355328) :
    Calls Tryd.prog 82 #[.string r] w fun e w' => e = .returned (.bool (isRightP 1 r)) ∧ Below w.heap.size w w' := by
  go_enter Tryd.func82, Tryd.ntmps82
  go_wp2_with (go_at_call 99; refine (refIsRight_any 1 0 r _ hs).mono ?_; rintro e w' ⟨rfl, hb⟩)
  go_ret
  exact ⟨rfl, hb⟩

/-- The kind of a token is what its text says. -/
theorem tok_kind {s : ByteArray} (h : (lexTokens s).2.2 = 0) : ∀ x ∈ (lexTokens s).1, x.kind = (kindP x.text).1 := by
  obtain ⟨_, h2, _, _, _⟩ := lexTokens_ok h
  have h3 := tokAcc_filter _ _ _ h2
  rw [h3, List.nil_append]
  intro x hx
  obtain ⟨h4, h5⟩ := List.mem_filter.1 hx
  have hpc : ∀ (f k : Nat), ∀ y ∈ pcsFrom s f k, ∃ j, y = pieceAt s j := by
    intro f
    induction f with
    | zero => intro k y hy; cases hy
    | succ f ih =>
      intro k y hy
      rw [pcsFrom] at hy
      split at hy
      · cases hy with
        | head => exact ⟨k, rfl⟩
        | tail _ hy => exact ih _ y hy
      · cases hy
  obtain ⟨j, rfl⟩ := hpc _ _ x h4
  have h6 : (pieceAt s j).kind ≠ 5 := by simpa [isNote] using h5
  unfold pieceAt at h6 ⊢
  dsimp only at h6 ⊢
  rw [if_neg h6]

theorem name_kind {s y : ByteArray} (h : (lexTokens s).2.2 = 0) (hy : isRightP 1 y = true) : ∀ x ∈ (lexTokens s).1, x.text = y → x.kind = 1 := by
  intro x hx e
  rw [tok_kind h x hx, e]
  unfold isRightP at hy
  simp only [Bool.and_eq_true, decide_eq_true_eq] at hy
  exact hy.2.2.2.1
/-- How the reference's Rename stands. -/
structure RenP (s old name : ByteArray) (l : List Piece) (k f mn : Nat) (done : ByteArray) (tw : Bool) : Prop where
  after : aftS s 0 (renSpls old name l) = done.data.toList ++ aftS s f (renSpls old name (l.drop k))
  ord : pcOrd s.size f (l.drop k)
  many : mn = 0 ↔ renSpls old name (l.take k) = []
  twice : tw = (l.take k).any (fun t => decide (t.text = name))

theorem ren_start {s old name : ByteArray} {l : List Piece} (h : pcOrd s.size 0 l) : RenP s old name l 0 0 0 ⟨#[]⟩ false := ⟨rfl, h, by simp [renSpls], rfl⟩

theorem ren_drop {old name : ByteArray} {l : List Piece} {k : Nat} {x : Piece} (h : l[k]? = some x) :
    renSpls old name (l.drop k) = if x.text = old then ⟨x.at_, x.at_ + old.size, name⟩ :: renSpls old name (l.drop (k + 1)) else renSpls old name (l.drop (k + 1)) := by
  obtain ⟨hk, rfl⟩ := List.getElem?_eq_some_iff.1 h
  rw [List.drop_eq_getElem_cons hk, renSpls]

theorem ord_drop {n f : Nat} {l : List Piece} {k : Nat} {x : Piece} (h : l[k]? = some x) (ho : pcOrd n f (l.drop k)) : f ≤ x.at_ ∧ x.at_ + x.text.size ≤ n ∧ pcOrd n (x.at_ + x.text.size) (l.drop (k + 1)) := by
  obtain ⟨hk, rfl⟩ := List.getElem?_eq_some_iff.1 h
  rw [List.drop_eq_getElem_cons hk] at ho
  exact ho

theorem ren_skip {s old name : ByteArray} {l : List Piece} {k f mn : Nat} {done : ByteArray} {tw : Bool} {x : Piece} (h : RenP s old name l k f mn done tw) (hx : l[k]? = some x) (ho : x.text ≠ old) :
    RenP s old name l (k + 1) f mn done (tw || decide (x.text = name)) := by
  refine ⟨?_, ?_, ?_, ?_⟩
  · rw [h.after, ren_drop hx, if_neg ho]
  · obtain ⟨h1, h2, h3⟩ := ord_drop hx h.ord
    exact pcOrd_mono _ _ _ _ (by omega) h3
  · rw [renSpls_take hx, if_neg ho, List.append_nil]
    exact h.many
  · rw [any_take hx, h.twice]

theorem ren_put {s old name : ByteArray} {l : List Piece} {k f mn : Nat} {done : ByteArray} {tw : Bool} {x : Piece} (h : RenP s old name l k f mn done tw) (hx : l[k]? = some x) (ho : x.text = old) :
    RenP s old name l (k + 1) (x.at_ + old.size) (mn + 1) (done ++ (s.extract f x.at_ ++ name)) (tw || decide (x.text = name)) := by
  obtain ⟨h1, h2, h3⟩ := ord_drop hx h.ord
  rw [ho] at h2 h3
  refine ⟨?_, h3, ?_, ?_⟩
  · rw [h.after, ren_drop hx, if_pos ho, aftS_cons, ← Int.natCast_add, Int.toNat_natCast, Int.toNat_natCast]
    simp only [ByteArray.data_append, Array.toList_append, ext_list]
    simp
  · rw [renSpls_take hx, if_pos ho]
    simp
  · rw [any_take hx, h.twice]

theorem ren_size {s old name : ByteArray} {l : List Piece} (h : pcOrd s.size 0 l) : ((aftS s 0 (renSpls old name l)).length : Int) = (s.size : Int) + grown s 0 (renSpls old name l) := by
  have := (chgs_ord s (renSpls old name l) 0 0 (Int.le_refl 0) (by omega) (renSpls_right s.size old name l 0 h)).2
  simp only [Int.toNat_zero] at this
  unfold aftS
  omega

theorem ren_res {s old name : ByteArray} (he : (lexTokens s).2.2 = 0) (h1 : isRightP 1 old = true) (h2 : isRightP 1 name = true) {mn : Nat} {done : ByteArray} {tw : Bool} (ho : pcOrd s.size 0 (lexTokens s).1)
    (hd : aftS s 0 (renSpls old name (lexTokens s).1) = done.data.toList) (hm : mn = 0 ↔ renSpls old name (lexTokens s).1 = []) (ht : tw = (lexTokens s).1.any (fun t => decide (t.text = name))) :
    renameRes s old name = if mn = 0 then ([], 7) else if tw = true then ([], 6) else if 2500 < done.size then ([], 5) else (done.data.toList, 0) := by
  have hs := ren_size (old := old) (name := name) ho
  rw [hd] at hs
  have e : done.data.toList.length = done.size := by simp
  rw [e] at hs
  unfold renameRes
  rw [if_neg (by rw [he]; simp), if_neg (by rw [h1, h2]; simp), ← ht]
  by_cases h0 : mn = 0
  · rw [if_pos h0, if_pos (hm.1 h0)]
  · rw [if_neg h0, if_neg (fun e => h0 (hm.2 e))]
    by_cases htw : tw = true
    · rw [if_pos htw, if_pos htw]
    · rw [if_neg htw, if_neg htw]
      by_cases h25 : 2500 < done.size
      · have hp : (planRes s (renSpls old name (lexTokens s).1)).2 = 5 := by
          unfold planRes
          rw [if_pos (by omega)]
        rw [if_pos h25, hp, if_pos (by decide)]
      · have hp : (planRes s (renSpls old name (lexTokens s).1)).2 = 0 := by
          unfold planRes
          rw [if_neg (by omega)]
        rw [if_neg h25, hp, if_neg (by simp)]
        show (aftS s 0 _, (0 : Int)) = _
        rw [hd]

theorem ret_sv (D : ByteArray) : Ending.returned (.tuple #[.string D, .int .i64 0]) = .returned (.tuple #[.string ⟨D.data.toList.toArray⟩, .int .i64 0]) := rfl

set_option maxRecDepth 100000 in
set_option maxHeartbeats 2000000 in
theorem refRename_any (s old name : ByteArray) (w : World) (hs : s.size ≤ 140737488355328) (hno : old.size ≤ 100) (hnn : name.size ≤ 100) :
    Calls Tryd.prog 46 #[.string s, .string old, .string name] w fun e w' => e = .returned (.tuple #[.string ⟨(renameRes s old name).1.toArray⟩, .int .i64 (renameRes s old name).2]) ∧ Below w.heap.size w w' := by
  have C19 := Lib.hid (fun w => refTokens_any s w hs)
  by_cases he : (lexTokens s).2.2 = 0
  · have heb : ((lexTokens s).2.2 != 0) = false := by simpa using he
    have C82o := Lib.hid (fun w => refIsName_any old w (by omega))
    have C82n := Lib.hid (fun w => refIsName_any name w (by omega))
    by_cases h1 : isRightP 1 old = true
    · by_cases h2 : isRightP 1 name = true
      · rw [h1] at C82o
        rw [h2] at C82n
        obtain ⟨k1, k2, k3, k4, k5⟩ := lexTokens_ok he
        have h25 := textErr_ok k1
        have HKO := Lib.hid (name_kind he h1)
        have HKN := Lib.hid (name_kind he h2)
        have HRES := Lib.hid (fun mn done tw hd hm ht => ren_res he h1 h2 (mn := mn) (done := done) (tw := tw) k5 hd hm ht)
        have HST := Lib.hid (ren_start (old := old) (name := name) k5)
        generalize (lexTokens s).1 = l at C19 HKO HKN HRES HST k4
        generalize (lexTokens s).2.1 = at0 at C19
        generalize (lexTokens s).2.2 = e0 at C19 heb
        clear k1 k2 k3 k5 h1 h2 he
        go_enter Tryd.func46, Tryd.ntmps46
        go_wp2_with (first
          | (go_at_call 19; refine (C19.out _).mono ?_; rintro e w1 ⟨v1, rfl, hb1, ht1⟩; have HB1 := Lib.hid hb1; obtain ⟨A, c, rfl, hA⟩ := tokIn_of_own ht1; have HA := Lib.hid hA; clear hb1 ht1 hA)
          | (go_at_call 82; refine (C82o.out _).mono ?_; rintro e w2 ⟨rfl, hb2⟩; have HB2 := Lib.hid (HB1.out.trans (hb2.mono HB1.out.size)); have HBB2 := Lib.hid hb2; clear hb2 HB1 C82o)
          | (go_at_call 82; refine (C82n.out _).mono ?_; rintro e w3 ⟨rfl, hb3⟩; have HB3 := Lib.hid (HB2.out.trans (hb3.mono HB2.out.size)); have HBB3 := Lib.hid (HBB2.out.trans (hb3.mono HBB2.out.size)); clear hb3 HB2 HBB2))
        go_loopw [11, 12, 13, 14, 15] (fun o a m t i wr => ∃ (k f mn : Nat) (done : ByteArray) (tw : Bool), k ≤ l.length ∧ i = .int .i64 k ∧ a = .int .i64 f ∧ m = .int .i64 mn ∧ o = .string done ∧ t = .bool tw ∧ Hid (RenP s old name l k f mn done tw) ∧ f ≤ s.size ∧ mn ≤ k ∧ done.size ≤ f + 100 * k ∧ Hid (Below w.heap.size w wr) ∧ Hid (Below w1.heap.size w1 wr)) (fun _ _ _ _ i _ => l.length - (intOf i).toNat)
        case atStart => exact ⟨0, 0, 0, ⟨#[]⟩, false, by omega, rfl, rfl, rfl, rfl, rfl, HST, by omega, by omega, Nat.zero_le _, HB3, HBB3⟩
        case round =>
          obtain ⟨k, f, mn, done, tw, hk, rfl, rfl, rfl, rfl, rfl, HP, hf, hmn, hdz, HBW, HBB⟩ := hrel
          clear HST HB3 HBB3
          by_cases hlt : k < l.length
          · obtain ⟨x, hx⟩ : ∃ x, l[k]? = some x := ⟨_, List.getElem?_eq_getElem hlt⟩
            obtain ⟨b, off, rfl, hB, g1, g2, g3⟩ := HA.out k x hx
            have d1 := (HBB.out.cell (p := ⟨b, _, none⟩) hB).trans g1
            have d2 := (HBB.out.cell (p := ⟨b, _, none⟩) hB).trans g2
            have d3 := (HBB.out.cell (p := ⟨b, _, none⟩) hB).trans g3
            have hmem := List.mem_of_getElem? hx
            obtain ⟨o1, o2, _⟩ := ord_drop hx HP.out.ord
            have o4 : x.text = old → x.at_ + old.size ≤ s.size := fun e => by rw [← e]; exact o2
            have O4 := Lib.hid o4
            have HXJ := Lib.hid hx
            have KO := Lib.hid (HKO.out x hmem)
            have KN := Lib.hid (HKN.out x hmem)
            clear g1 g2 g3 hx hmem o4
            by_cases hk1 : x.kind = 1
            · have q0 : (x.kind == 1) = true := by simpa using hk1
              clear hk1
              by_cases hn : x.text = name
              · have qn : (x.text.toList == name.toList) = true := by rw [toList_beq]; simpa using hn
                by_cases ho : x.text = old
                · have qo : (x.text.toList == old.toList) = true := by rw [toList_beq]; simpa using ho
                  have o3 := O4.out ho
                  have hsl := fun wx => run_slice_string (P := Tryd.prog) wx 9 s .i64 .i64 (f : Int) (x.at_ : Int) Tryd.underlying9 (by omega) (by omega) (by omega)
                  rw [Int.toNat_natCast, Int.toNat_natCast] at hsl
                  have hps : (s.extract f x.at_).size = x.at_ - f := by simp; omega
                  have HX := Lib.hid (show RenP s old name l (k + 1) (x.at_ + old.size) (mn + 1) (done ++ (s.extract f x.at_ ++ name)) true from by
                    have h := ren_put HP.out HXJ.out ho
                    rw [decide_eq_true hn, Bool.or_true] at h
                    exact h)
                  generalize s.extract f x.at_ = p at hsl hps HX
                  have s1 : ∀ w, (Op.stringOp .add p name).run Tryd.prog w = .ok (.string (p ++ name)) w := fun w => run_string_add_sum w p name (by omega)
                  have s2 : ∀ w, (Op.stringOp .add done (p ++ name)).run Tryd.prog w = .ok (.string (done ++ (p ++ name))) w := fun w => run_string_add_sum w done (p ++ name) (by simp; omega)
                  have hds : (done ++ (p ++ name)).size ≤ x.at_ + old.size + 100 * (k + 1) := by simp; omega
                  have HDS := Lib.hid hds
                  have hlast : x.at_ + old.size ≤ s.size := by have := o3; omega
                  clear ho hn hps hds
                  go_wp2_with fail
                  go_roundw
                  case rel => exact ⟨k + 1, x.at_ + old.size, mn + 1, _, true, by omega, by go_num, numS (by omega), numS (by omega), rfl, rfl, HX, by omega, by omega, HDS.out, HBW, HBB⟩
                  case measure => simp [intOf]; omega
                · have qo : (x.text.toList == old.toList) = false := by rw [toList_beq]; simpa using ho
                  have HX := Lib.hid (show RenP s old name l (k + 1) f mn done true from by
                    have h := ren_skip HP.out HXJ.out ho
                    rw [decide_eq_true hn, Bool.or_true] at h
                    exact h)
                  clear ho hn
                  go_wp2_with fail
                  go_roundw
                  case rel => exact ⟨k + 1, f, mn, done, true, by omega, by go_num, rfl, rfl, rfl, rfl, HX, hf, by omega, by omega, HBW, HBB⟩
                  case measure => simp [intOf]; omega
              · have qn : (x.text.toList == name.toList) = false := by rw [toList_beq]; simpa using hn
                by_cases ho : x.text = old
                · have qo : (x.text.toList == old.toList) = true := by rw [toList_beq]; simpa using ho
                  have o3 := O4.out ho
                  have hsl := fun wx => run_slice_string (P := Tryd.prog) wx 9 s .i64 .i64 (f : Int) (x.at_ : Int) Tryd.underlying9 (by omega) (by omega) (by omega)
                  rw [Int.toNat_natCast, Int.toNat_natCast] at hsl
                  have hps : (s.extract f x.at_).size = x.at_ - f := by simp; omega
                  have HX := Lib.hid (show RenP s old name l (k + 1) (x.at_ + old.size) (mn + 1) (done ++ (s.extract f x.at_ ++ name)) tw from by
                    have h := ren_put HP.out HXJ.out ho
                    rw [decide_eq_false hn, Bool.or_false] at h
                    exact h)
                  generalize s.extract f x.at_ = p at hsl hps HX
                  have s1 : ∀ w, (Op.stringOp .add p name).run Tryd.prog w = .ok (.string (p ++ name)) w := fun w => run_string_add_sum w p name (by omega)
                  have s2 : ∀ w, (Op.stringOp .add done (p ++ name)).run Tryd.prog w = .ok (.string (done ++ (p ++ name))) w := fun w => run_string_add_sum w done (p ++ name) (by simp; omega)
                  have hds : (done ++ (p ++ name)).size ≤ x.at_ + old.size + 100 * (k + 1) := by simp; omega
                  have HDS := Lib.hid hds
                  have hlast : x.at_ + old.size ≤ s.size := by have := o3; omega
                  clear ho hn hps hds
                  go_wp2_with fail
                  go_roundw
                  case rel => exact ⟨k + 1, x.at_ + old.size, mn + 1, _, tw, by omega, by go_num, numS (by omega), numS (by omega), rfl, rfl, HX, by omega, by omega, HDS.out, HBW, HBB⟩
                  case measure => simp [intOf]; omega
                · have qo : (x.text.toList == old.toList) = false := by rw [toList_beq]; simpa using ho
                  have HX := Lib.hid (show RenP s old name l (k + 1) f mn done tw from by
                    have h := ren_skip HP.out HXJ.out ho
                    rw [decide_eq_false hn, Bool.or_false] at h
                    exact h)
                  clear ho hn
                  go_wp2_with fail
                  go_roundw
                  case rel => exact ⟨k + 1, f, mn, done, tw, by omega, by go_num, rfl, rfl, rfl, rfl, HX, hf, by omega, by omega, HBW, HBB⟩
                  case measure => simp [intOf]; omega
            · have q0 : (x.kind == 1) = false := by simpa using hk1
              have HX := Lib.hid (show RenP s old name l (k + 1) f mn done tw from by
                have h := ren_skip HP.out HXJ.out (fun e => hk1 (KO.out e))
                rw [decide_eq_false (fun e => hk1 (KN.out e)), Bool.or_false] at h
                exact h)
              clear hk1
              go_wp2_with fail
              go_roundw
              case rel => exact ⟨k + 1, f, mn, done, tw, by omega, by go_num, rfl, rfl, rfl, rfl, HX, hf, by omega, by omega, HBW, HBB⟩
              case measure => simp [intOf]; omega
          · have hkl : k = l.length := by omega
            obtain ⟨D, hD⟩ : ∃ D, D = done ++ s.extract f s.size := ⟨_, rfl⟩
            have hRES := HRES.out mn D tw (by
                rw [HP.out.after, List.drop_eq_nil_of_le (by omega), hD]
                simp only [ByteArray.data_append, Array.toList_append, ext_list]
                rw [List.take_of_length_le (by simp)]
                rfl) (by
                have h := HP.out.many
                rw [List.take_of_length_le (by omega)] at h
                exact h) (by
                have h := HP.out.twice
                rw [List.take_of_length_le (by omega)] at h
                exact h)
            have HR := Lib.hid hRES
            have s3 : ∀ w, (Op.stringOp .add done (s.extract f s.size)).run Tryd.prog w = .ok (.string D) w := fun w => by
              rw [hD]
              exact run_string_add_sum w done _ (by simp; omega)
            clear hRES hD hkl
            by_cases hm0 : mn = 0
            · have q1 : ((mn : Int) == 0) = true := by simpa using hm0
              have HR2 := Lib.hid (show renameRes s old name = ([], 7) by rw [HR.out, if_pos hm0])
              clear hm0
              go_wp2_with fail
              go_ret2
              rw [HR2.out]
              exact ⟨rfl, HBW.out⟩
            · have q1 : ((mn : Int) == 0) = false := by simp; omega
              cases tw with
              | true =>
                have HR2 := Lib.hid (show renameRes s old name = ([], 6) by rw [HR.out, if_neg hm0, if_pos rfl])
                clear hm0
                go_wp2_with fail
                go_ret2
                rw [HR2.out]
                exact ⟨rfl, HBW.out⟩
              | false =>
                by_cases hbig : 2500 < D.size
                · have HR2 := Lib.hid (show renameRes s old name = ([], 5) by rw [HR.out, if_neg hm0, if_neg (by simp), if_pos hbig])
                  clear hm0
                  go_wp2_with fail
                  go_ret2
                  rw [HR2.out]
                  exact ⟨rfl, HBW.out⟩
                · have HR2 := Lib.hid (show renameRes s old name = (D.data.toList, 0) by rw [HR.out, if_neg hm0, if_neg (by simp), if_neg hbig])
                  clear hm0
                  go_wp2_with fail
                  go_ret2
                  rw [HR2.out]
                  exact ⟨ret_sv D, HBW.out⟩
      · have h2' : isRightP 1 name = false := by simpa using h2
        have HR := Lib.hid (show renameRes s old name = ([], 2) by unfold renameRes; rw [if_neg (by rw [he]; simp), if_pos (.inr h2')])
        rw [h1] at C82o
        rw [h2'] at C82n
        generalize (lexTokens s).1 = l at C19
        generalize (lexTokens s).2.1 = at0 at C19
        generalize (lexTokens s).2.2 = e0 at C19 heb
        clear h1 h2 h2' he
        go_enter Tryd.func46, Tryd.ntmps46
        go_wp2_with (first
          | (go_at_call 19; refine (C19.out _).mono ?_; rintro e w1 ⟨v1, rfl, hb1, ht1⟩; have HB1 := Lib.hid hb1; clear hb1 ht1)
          | (go_at_call 82; refine (C82o.out _).mono ?_; rintro e w2 ⟨rfl, hb2⟩; have HB2 := Lib.hid (HB1.out.trans (hb2.mono HB1.out.size)); clear hb2 HB1 C82o)
          | (go_at_call 82; refine (C82n.out _).mono ?_; rintro e w3 ⟨rfl, hb3⟩; have HB3 := Lib.hid (HB2.out.trans (hb3.mono HB2.out.size)); clear hb3 HB2))
        go_ret2
        rw [HR.out]
        exact ⟨rfl, HB3.out⟩
    · have h1' : isRightP 1 old = false := by simpa using h1
      have HR := Lib.hid (show renameRes s old name = ([], 2) by unfold renameRes; rw [if_neg (by rw [he]; simp), if_pos (.inl h1')])
      rw [h1'] at C82o
      generalize (lexTokens s).1 = l at C19
      generalize (lexTokens s).2.1 = at0 at C19
      generalize (lexTokens s).2.2 = e0 at C19 heb
      clear h1 h1' he
      go_enter Tryd.func46, Tryd.ntmps46
      go_wp2_with (first
        | (go_at_call 19; refine (C19.out _).mono ?_; rintro e w1 ⟨v1, rfl, hb1, ht1⟩; have HB1 := Lib.hid hb1; clear hb1 ht1)
        | (go_at_call 82; refine (C82o.out _).mono ?_; rintro e w2 ⟨rfl, hb2⟩; have HB2 := Lib.hid (HB1.out.trans (hb2.mono HB1.out.size)); clear hb2 HB1 C82o))
      go_ret2
      rw [HR.out]
      exact ⟨rfl, HB2.out⟩
  · have heb : ((lexTokens s).2.2 != 0) = true := by simpa using he
    have HR := Lib.hid (show renameRes s old name = ([], (lexTokens s).2.2) by unfold renameRes; rw [if_pos he])
    clear he
    generalize (lexTokens s).1 = l at C19
    generalize (lexTokens s).2.1 = at0 at C19
    generalize (lexTokens s).2.2 = e0 at C19 heb HR
    go_enter Tryd.func46, Tryd.ntmps46
    go_wp2_with (go_at_call 19; refine (C19.out _).mono ?_; rintro e w1 ⟨v1, rfl, hb1, ht1⟩; have HB1 := Lib.hid hb1; clear hb1 ht1)
    go_ret2
    rw [HR.out]
    exact ⟨rfl, HB1.out⟩
set_option maxRecDepth 100000 in
set_option maxHeartbeats 1000000 in
theorem renames_any (s old name : ByteArray) (w : World) (hs : s.size ≤ 140737488355328) (ho : old.size ≤ 140737488355328) (hm : name.size ≤ 140737488355328) (hn : NumVars w) :
    Calls Tryd.prog 9 #[.string s, .string old, .string name] w fun e w' => e = .returned (.bool true) ∧ Below w.heap.size w w' := by
  have HN := Lib.hid hn
  clear hn
  by_cases h1 : 3000 < s.size
  · go_enter Tryd.func9, Tryd.ntmps9
    go_wp2_with (go_at_call 17; refine (awake_any _ HN.out).mono ?_; rintro e w1 ⟨rfl, hb1⟩)
    go_ret
    exact ⟨rfl, hb1⟩
  · by_cases h2 : 100 < old.size
    · go_enter Tryd.func9, Tryd.ntmps9
      go_wp2_with (go_at_call 17; refine (awake_any _ HN.out).mono ?_; rintro e w1 ⟨rfl, hb1⟩)
      go_ret
      exact ⟨rfl, hb1⟩
    · by_cases h3 : 100 < name.size
      · go_enter Tryd.func9, Tryd.ntmps9
        go_wp2_with (go_at_call 17; refine (awake_any _ HN.out).mono ?_; rintro e w1 ⟨rfl, hb1⟩)
        go_ret
        exact ⟨rfl, hb1⟩
      · have C45 := Lib.hid (fun w h => rename_any s old name w hs ho hm h)
        have C46 := Lib.hid (fun w => refRename_any s old name w hs (by omega) (by omega))
        generalize (renameRes s old name).1.toArray = t at C45 C46
        generalize (renameRes s old name).2 = e0 at C45 C46
        go_enter Tryd.func9, Tryd.ntmps9
        go_wp2_with (first
          | (go_at_call 45; refine (C45.out _ HN.out).mono ?_; rintro e w1 ⟨rfl, hb1⟩; have HB1 := Lib.hid hb1; clear hb1 C45)
          | (go_at_call 46; refine (C46.out _).mono ?_; rintro e w2 ⟨rfl, hb2⟩; have HB2 := Lib.hid (HB1.out.trans (hb2.mono HB1.out.size)); clear hb2 HB1 C46)
          | (go_at_call 17; refine (awake_any _ (HN.out.keep HB2.out)).mono ?_; rintro e w3 ⟨rfl, hb3⟩))
        go_ret
        exact ⟨rfl, HB2.out.trans (hb3.mono HB2.out.size)⟩
end Go.Proofs.YtjadjmkbjolklaaDoor
