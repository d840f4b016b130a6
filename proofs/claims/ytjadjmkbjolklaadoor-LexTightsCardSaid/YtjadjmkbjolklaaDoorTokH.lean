/- The contracts of the reference's Tokens, Notes, and of LexTokens. -/
import Derived.Test.YtjadjmkbjolklaaDoorTokF
import Derived.Test.YtjadjmkbjolklaaDoorAwakeB
namespace Go.Proofs.YtjadjmkbjolklaaDoor
open Go.RowKit Go.Maps

set_option maxRecDepth 100000 in
theorem refTokens_any (s : ByteArray) (w : World) (hs : s.size ≤ 140737488355328) :
    Calls Tryd.prog 19 #[.string s] w fun e w' => ∃ v, e = .returned (.tuple #[v, .int .i64 (lexTokens s).2.1, .int .i64 (lexTokens s).2.2]) ∧ Below w.heap.size w w' ∧ OwnToks w' w.heap.size v (lexTokens s).1 := by
  by_cases he : (textErr s).2 = 0
  · have h25 := textErr_ok he
    have HR := Lib.hid (show lexTokens s = ((tokRes [] (pcs s)).1, ((tokRes [] (pcs s)).2.1 : Int), (tokRes [] (pcs s)).2.2) by unfold lexTokens; rw [if_pos he])
    have heb : ((textErr s).2 != 0) = false := by simpa using he
    have C52 := Lib.hid (fun w => refAll_any s w h25)
    clear he
    go_enter Tryd.func19, Tryd.ntmps19
    go_wp2_with (first
      | (go_at_call 51; refine (refTextError_any s _ hs).mono ?_; rintro e w1 ⟨rfl, rfl⟩)
      | (go_at_call 52; refine (C52.out _).mono ?_; rintro e w2 ⟨v1, v2, rfl, hb2, hown⟩))
    rw [HR.out]
    refine bodyPost_ret (v := .tuple #[v1, .int .i64 (tokRes [] (pcs s)).2.1, .int .i64 (tokRes [] (pcs s)).2.2]) (by simp [results, Tryd.results19, go_sem]) rfl ?_
    exact ⟨_, rfl, hb2, hown⟩
  · have HR := Lib.hid (show lexTokens s = ([], (textErr s).1, (textErr s).2) by unfold lexTokens; rw [if_neg he])
    have heb : ((textErr s).2 != 0) = true := by simpa using he
    clear he
    go_enter Tryd.func19, Tryd.ntmps19
    go_wp2_with (go_at_call 51; refine (refTextError_any s _ hs).mono ?_; rintro e w1 ⟨rfl, rfl⟩)
    rw [HR.out]
    refine bodyPost_ret (v := .tuple #[.slice none 0 0, .int .i64 (textErr s).1, .int .i64 (textErr s).2]) (by simp [results, Tryd.results19, go_sem]) rfl ?_
    exact ⟨_, rfl, Below.refl _ _, World.ownsRow_nil _ _ _ _⟩

set_option maxRecDepth 100000 in
set_option maxHeartbeats 1000000 in
theorem refNotes_any (s : ByteArray) (w : World) (hs : s.size ≤ 140737488355328) :
    Calls Tryd.prog 21 #[.string s] w fun e w' => ∃ v, e = .returned (.tuple #[v, .int .i64 (textErr s).2]) ∧ Below w.heap.size w w' ∧ OwnToks w' w.heap.size v (if (textErr s).2 = 0 then notes s else []) := by
  by_cases he : (textErr s).2 = 0
  · have h25 := textErr_ok he
    have HE := Lib.hid he
    have heb : ((textErr s).2 != 0) = false := by simpa using he
    clear he
    obtain ⟨i0, hi, hz0, hz1, hz2⟩ := info_parts info63
    go_enter Tryd.func21, Tryd.ntmps21
    go_wp2_with (go_at_call 51; refine (refTextError_any s _ hs).mono ?_; rintro e w1 ⟨rfl, rfl⟩)
    go_loopw [6, 7] (fun nt i wr => ∃ (k : Nat) (ns : List Piece), k ≤ s.size ∧ i = .int .i64 k ∧ Hid (NoteP s k ns) ∧ wr.ownsRow w.heap.size 63 3 nt ns.length (tokCells ns) ∧ ns.length ≤ k ∧ Below w.heap.size w wr) (fun _ i _ => s.size - (intOf i).toNat)
    case atStart => exact ⟨0, [], by omega, rfl, Lib.hid (noteP_start s), World.ownsRow_nil _ _ _ _, by simp, Below.refl _ _⟩
    case round =>
      obtain ⟨k, ns, hk, rfl, HP, hnrow, hnk, hb⟩ := hrel
      have hsz := hb.size
      by_cases hlt : k < s.size
      · have i1 := idxb s k hlt
        have HGK := Lib.hid (getBang s k hlt)
        by_cases h126 : (s[k]!).toNat = 126
        · have q3 : (((s[k]!).toNat : Int) != 126) = false := by simp [h126]
          have hn126 : s[k].toNat = 126 := by rw [← HGK.out]; exact h126
          have HX := Lib.hid (noteP_note HP.out hlt hn126)
          obtain ⟨e1, e2, e3, e4, e5⟩ := lineEnd_size hlt hn126
          have C53 := Lib.hid (fun w => note_any s k w hs (by omega))
          rw [← e5] at HX
          generalize s.extract k (lineEndP s k) = x at HX C53 e1 e2
          have HE2 := Lib.hid e2
          have hx47 : x.size ≤ 2500 := by omega
          clear h126 hn126 e5 e2
          generalize (s[k]!).toNat = b at i1 q3
          go_wp2_with (first
            | (go_at_call 53; refine (C53.out _).mono ?_; rintro e w' ⟨rfl, rfl⟩)
            | (at_builtin; refine wpList_append_own_at _ rfl _ _ 23 rfl w.heap.size 63 i0 _ 3 32 Tryd.underlying23 hi hz0 hz1 hz2 rfl (by decide) _ _ _ rfl (hnrow.alloc _) ⟨wr.heap.size, 0, none⟩ 1 1 [.int .u8 5, .string (x.extract 1 x.size), .int .i64 k] rfl rfl (cells_new _ _ _) (by simp [Value.oneCell']) (by unfold maxLen; omega) (by omega) (by simp; omega) ?_; intro v' w3 hown' hgrow' _ hat))
          have hb3 : Below w.heap.size w w3 := (hb.alloc hsz _).grown hgrow' (by simp; omega) (fun k e => row_base hnrow e)
          go_roundw
          case rel => exact ⟨lineEndP s k, _, by omega, numS (by have := HE2.out; omega), HX, toks_app (x := ⟨5, x.extract 1 x.size, k, 0⟩) hown', by simp; omega, hb3⟩
          case measure => simp [intOf]; omega
        · have q3 : (((s[k]!).toNat : Int) != 126) = true := by simp; omega
          have HX := Lib.hid (noteP_other HP.out hlt (by rw [← HGK.out]; exact h126))
          clear h126
          generalize (s[k]!).toNat = b at i1 q3
          go_wp2_with fail
          go_roundw
          case rel => exact ⟨k + 1, ns, by omega, by go_num, HX, hnrow, by omega, hb⟩
          case measure => simp [intOf]; omega
      · have HN := Lib.hid (noteP_end HP.out (by omega))
        go_wp2_with fail
        go_ret2
        refine ⟨_, rfl, hb, ?_⟩
        rw [HN.out]
        exact hnrow
  · have HE := Lib.hid he
    have heb : ((textErr s).2 != 0) = true := by simpa using he
    clear he
    go_enter Tryd.func21, Tryd.ntmps21
    go_wp2_with (go_at_call 51; refine (refTextError_any s _ hs).mono ?_; rintro e w1 ⟨rfl, rfl⟩)
    go_ret2
    exact ⟨_, rfl, Below.refl _ _, World.ownsRow_nil _ _ _ _⟩

theorem sameP_refl (l : List Piece) : sameP l l = true := (sameP_iff l l).2 rfl

theorem lexTokens_len (s : ByteArray) : (lexTokens s).1.length ≤ 140737488355328 := by
  by_cases h : (lexTokens s).2.2 = 0
  · have := (lexTokens_ok h).2.2.2.1
    omega
  · unfold lexTokens at h ⊢
    split at h
    · rename_i h0
      rw [if_pos h0]
      have hres : ∀ (l acc : List Piece), (tokRes acc l).2.2 ≠ 0 → (tokRes acc l).1 = [] := by
        intro l
        induction l with
        | nil => intro acc h; exact absurd rfl h
        | cons p r ih =>
          intro acc h
          rw [tokRes] at h ⊢
          split at h
          · rename_i h1
            rw [if_pos h1]
            exact ih _ h
          · rename_i h1
            rw [if_neg h1]
            split at h
            · rename_i h2
              rw [if_pos h2]
            · rename_i h2
              rw [if_neg h2]
              split at h
              · rename_i h3
                rw [if_pos h3]
              · rename_i h3
                rw [if_neg h3]
                exact ih _ h
      show (tokRes [] (pcs s)).1.length ≤ _
      rw [hres _ _ h]
      simp
    · rename_i h0
      rw [if_neg h0]
      simp

set_option maxRecDepth 100000 in
set_option maxHeartbeats 1000000 in
theorem lexTokensLaw_any (s : ByteArray) (w : World) (hs : s.size ≤ 140737488355328) (hn : NumVars w) :
    Calls Tryd.prog 3 #[.string s] w fun e w' => e = .returned (.bool true) ∧ Below w.heap.size w w' := by
  have HN := Lib.hid hn
  clear hn
  by_cases h30 : 3000 < s.size
  · go_enter Tryd.func3, Tryd.ntmps3
    go_wp2_with (go_at_call 17; refine (awake_any _ HN.out).mono ?_; rintro e w1 ⟨rfl, hb1⟩)
    go_ret
    exact ⟨rfl, hb1⟩
  · have C18 := Lib.hid (fun w h => tokens_any s w hs h)
    have C19 := Lib.hid (fun w => refTokens_any s w hs)
    have C20 := Lib.hid (fun w h => notes_any s w hs h)
    have C21 := Lib.hid (fun w => refNotes_any s w hs)
    have hl1 := lexTokens_len s
    have hl2 : (if (textErr s).2 = 0 then notes s else []).length ≤ 140737488355328 := by
      split
      · have h1 : (notes s).length ≤ (pcs s).length := List.length_filter_le _ _
        have h2 := pcs_length s
        omega
      · simp
    generalize (if (textErr s).2 = 0 then notes s else []) = nt at C20 C21 hl2
    generalize (textErr s).2 = e2 at C20 C21
    generalize (lexTokens s).1 = l at C18 C19 hl1
    generalize (lexTokens s).2.1 = at1 at C18 C19
    generalize (lexTokens s).2.2 = e1 at C18 C19
    have HL1 := Lib.hid hl1
    have HL2 := Lib.hid hl2
    clear hl1 hl2
    go_enter Tryd.func3, Tryd.ntmps3
    go_wp2_with (first
      | (go_at_call 18; refine (C18.out _ HN.out).mono ?_; rintro e w1 ⟨v1, rfl, hb1, ht1⟩; have HB1 := Lib.hid hb1; have HT1 := Lib.hid (tokIn_of_own ht1); clear hb1 ht1 C18)
      | (go_at_call 19; refine (C19.out _).mono ?_; rintro e w2 ⟨v2, rfl, hb2, ht2⟩; have HB2 := Lib.hid (HB1.out.trans (hb2.mono HB1.out.size)); have HT1b := Lib.hid ((HT1.out.below hb2).more hb2.size); have HT2 := Lib.hid (tokIn_of_own ht2); clear hb2 ht2 HB1 HT1 C19)
      | (go_at_call 20; refine (C20.out _ (HN.out.keep HB2.out)).mono ?_; rintro e w3 ⟨v3, rfl, hb3, ht3⟩; have HB3 := Lib.hid (HB2.out.trans (hb3.mono HB2.out.size)); have HT1c := Lib.hid ((HT1b.out.below hb3).more hb3.size); have HT2c := Lib.hid ((HT2.out.below hb3).more hb3.size); have HT3 := Lib.hid (tokIn_of_own ht3); clear hb3 ht3 HB2 HT1b HT2 C20)
      | (go_at_call 21; refine (C21.out _).mono ?_; rintro e w4 ⟨v4, rfl, hb4, ht4⟩; have HB4 := Lib.hid (HB3.out.trans (hb4.mono HB3.out.size)); have HT1d := Lib.hid ((HT1c.out.below hb4).more hb4.size); have HT2d := Lib.hid ((HT2c.out.below hb4).more hb4.size); have HT3d := Lib.hid ((HT3.out.below hb4).more hb4.size); have HT4 := Lib.hid (tokIn_of_own ht4); clear hb4 ht4 HB3 HT1c HT2c HT3 C21)
      | (go_at_call 22; refine (sameTokens_any _ _ l l _ HL1.out HL1.out HT1d.out HT2d.out).mono ?_; rintro e w5 ⟨rfl, hb5⟩; rw [sameP_refl]; have HB5 := Lib.hid (HB4.out.trans (hb5.mono HB4.out.size)); have HT3e := Lib.hid ((HT3d.out.below hb5).more hb5.size); have HT4e := Lib.hid ((HT4.out.below hb5).more hb5.size); clear hb5 HB4 HT1d HT2d HT3d HT4)
      | (go_at_call 22; refine (sameTokens_any _ _ nt nt _ HL2.out HL2.out HT3e.out HT4e.out).mono ?_; rintro e w6 ⟨rfl, hb6⟩; rw [sameP_refl]; have HB6 := Lib.hid (HB5.out.trans (hb6.mono HB5.out.size)); clear hb6 HB5 HT3e HT4e)
      | (go_at_call 17; refine (awake_any _ (HN.out.keep HB6.out)).mono ?_; rintro e w7 ⟨rfl, hb7⟩))
    go_ret
    exact ⟨rfl, HB6.out.trans (hb7.mono HB6.out.size)⟩
end Go.Proofs.YtjadjmkbjolklaaDoor
