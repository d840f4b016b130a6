/- The contract of the reference's Token. -/
import Derived.Test.YtjadjmkbjolklaaDoorTokE
namespace Go.Proofs.YtjadjmkbjolklaaDoor
open Go.RowKit

/-- A block that holds a token. -/
def Box3 (W : World) (B : Nat) (k : Int) (t : ByteArray) (a : Int) : Prop := W.heap[B]? = some (.cells #[.int .u8 k, .string t, .int .i64 a] 63 (0, 0))

section
variable {W : World} {B : Nat} {k a : Int} {t : ByteArray}
theorem Box3.lt (h : Box3 W B k t a) : B < W.heap.size := (Array.getElem?_eq_some_iff.1 h).1
theorem Box3.c0 (h : Box3 W B k t a) : W.cell? ⟨B, 0, none⟩ = some (.int .u8 k) := cell_of_row W B 0 _ 63 (0, 0) h
theorem Box3.c1 (h : Box3 W B k t a) : W.cell? ⟨B, 1, none⟩ = some (.string t) := cell_of_row W B 1 _ 63 (0, 0) h
theorem Box3.c2 (h : Box3 W B k t a) : W.cell? ⟨B, 2, none⟩ = some (.int .i64 a) := cell_of_row W B 2 _ 63 (0, 0) h
theorem Box3.f0 (h : Box3 W B k t a) (i : Nat) : W.frozen? ⟨B, i, none⟩ = false := by simp [World.frozen?, show W.heap[B]? = _ from h]
theorem Box3.new (W : World) (k : Int) (t : ByteArray) (a : Int) : Box3 (W.alloc (.cells #[.int .u8 k, .string t, .int .i64 a] 63)) W.heap.size k t a := World.alloc_heap_new W _
theorem Box3.below {W' : World} {n : Nat} (h : Box3 W B k t a) (hb : Below n W W') (hn : B < n) : Box3 W' B k t a := (hb.block B hn).trans h
theorem Box3.set (h : Box3 W B k t a) (k' : Int) (t' : ByteArray) (a' : Int) : Box3 (((W.setCell ⟨B, 0, none⟩ (.int .u8 k')).setCell ⟨B, 1, none⟩ (.string t')).setCell ⟨B, 2, none⟩ (.int .i64 a')) B k' t' a' := by
  have h1 := heap_setCell_same W B 0 _ 63 (.int .u8 k') h
  have h2 := heap_setCell_same _ B 1 _ 63 (.string t') h1
  exact heap_setCell_same _ B 2 _ 63 (.int .i64 a') h2
theorem Box3.c1' (h : Box3 W B k t a) (v : Value) : (W.setCell ⟨B, 0, none⟩ v).cell? ⟨B, 1, none⟩ = some (.string t) := by
  have h1 := heap_setCell_same W B 0 _ 63 v h
  exact cell_of_row _ B 1 _ 63 (0, 0) h1
theorem Box3.c2' (h : Box3 W B k t a) (v u : Value) : ((W.setCell ⟨B, 0, none⟩ v).setCell ⟨B, 1, none⟩ u).cell? ⟨B, 2, none⟩ = some (.int .i64 a) := by
  have h1 := heap_setCell_same W B 0 _ 63 v h
  have h2 := heap_setCell_same _ B 1 _ 63 u h1
  exact cell_of_row _ B 2 _ 63 (0, 0) h2
theorem Box3.low {b0 : Nat} {w0 : World} (hb : Below b0 w0 W) (hB : b0 ≤ B) (v u x : Value) : Below b0 w0 (((W.setCell ⟨B, 0, none⟩ v).setCell ⟨B, 1, none⟩ u).setCell ⟨B, 2, none⟩ x) :=
  ((hb.setCell (p := ⟨B, 0, none⟩) hB _).setCell (p := ⟨B, 1, none⟩) hB _).setCell (p := ⟨B, 2, none⟩) hB _
end

theorem results_token {tmps : Array Value} {W : World} {B : Nat} {k a e : Int} {t : ByteArray} (h : Box3 W B k t a) (t4 : tmps[4]?.getD undef = .pointer (some ⟨B, 0, none⟩)) (t5 : tmps[5]?.getD undef = .int .i64 e) :
    (results Tryd.f89 tmps).run Tryd.prog W = .ok (.tuple #[.agg #[.int .u8 k, .string t, .int .i64 a], .int .i64 e]) W := by
  have c0 := h.c0
  have c1 := h.c1
  have c2 := h.c2
  simp [results, Tryd.results89, t4, t5, go_sem, loadVar, c0, c1, c2]

/-- What the reference's Token returns, as values. -/
def tokVal (s : ByteArray) (k : Nat) : Value := .tuple #[.agg #[.int .u8 (tokRef s k).1, .string (tokRef s k).2.1, .int .i64 (if (tokRef s k).2.2 = 0 then k else 0)], .int .i64 (tokRef s k).2.2]
theorem tokVal_eq {s : ByteArray} {k : Nat} {a : Int} {t : ByteArray} {e : Int} (h : tokRef s k = (a, t, e)) : tokVal s k = .tuple #[.agg #[.int .u8 a, .string t, .int .i64 (if e = 0 then k else 0)], .int .i64 e] := by
  unfold tokVal
  rw [h]

theorem hasP_kw (r : ByteArray) : hasP kwL r = isKw r := rfl
theorem signL_small : ∀ x ∈ signL, x.size ≤ 2 := by decide

theorem firstSign_step (s : ByteArray) (k : Nat) (l : List ByteArray) (j : Nat) (x : ByteArray) (h : l[j]? = some x) : firstSign s k (l.drop j) = if begP s k x = true then some x else firstSign s k (l.drop (j + 1)) := by
  obtain ⟨hk, rfl⟩ := List.getElem?_eq_some_iff.1 h
  rw [List.drop_eq_getElem_cons hk, firstSign]

set_option maxRecDepth 100000 in
set_option maxHeartbeats 400000 in
theorem refToken_any (s : ByteArray) (k : Nat) (w : World) (hs : s.size ≤ 140737488355328) (hk : k < s.size) :
    Calls Tryd.prog 89 #[.string s, .int .i64 k] w fun e w' => e = .returned (tokVal s k) ∧ Below w.heap.size w w' := by
  have HNEW := Lib.hid (Box3.new w 0 ⟨#[]⟩ 0)
  have HBW := Lib.hid ((Below.refl w.heap.size w).alloc (Nat.le_refl _) (.cells #[.int .u8 0, .string ⟨#[]⟩, .int .i64 0] 63))
  have C107 := Lib.hid (fun w => run_any s k w hs (by omega))
  have hrs : (runP s k).size ≤ s.size := by unfold runP; simp; omega
  have HRE := Lib.hid (run_empty hk)
  have HTE := Lib.hid (fun h2 h4 => tokRef_else hk h2 h4)
  have HT2 := Lib.hid (fun h2 => tokRef_small hk h2)
  have HT4 := Lib.hid (fun h4 => tokRef_digit hk h4)
  have hfirst : 0 < (runP s k).size → (runP s k)[0]! = s[k] := fun h => by
    rw [← getBang s k hk]
    exact ext_first s k _ hk (by unfold runP at h; simp at h; omega)
  have HF := Lib.hid hfirst
  clear hfirst
  obtain ⟨r, hr⟩ : ∃ r, runP s k = r := ⟨_, rfl⟩
  rw [hr] at C107 hrs HRE HT2 HT4 HF
  clear hr
  by_cases hr0 : 0 < r.size
  · have hne : r.toList.isEmpty = false := by
      rw [Lib.toList_data, List.isEmpty_eq_false_iff]
      intro e
      have e1 : r.data.toList.length = r.size := by simp
      rw [e] at e1
      have e2 : 0 = r.size := e1
      omega
    have i0 := idx00 r hr0
    rw [HF.out hr0] at i0
    by_cases hsm : smB s[k].toNat = true
    · have C108 := Lib.hid (show ∀ w, Calls Tryd.prog 108 #[.int .u8 s[k].toNat] w fun e w' => e = .returned (.bool true) ∧ w = w' from fun w => hsm ▸ isSmall_any _ w)
      have HT := Lib.hid (HT2.out ((cls2 _).2 hsm))
      clear hsm HT2 HT4 HTE HRE
      by_cases hkw : isKw r = true
      · have HV := Lib.hid (tokVal_eq (by rw [HT.out, if_pos hkw]))
        have HK := Lib.hid (hasP_kw r)
        have HKW := Lib.hid hkw
        clear hkw
        go_enter Tryd.func89, Tryd.ntmps89
        go_wp2_with (first
          | (go_at_call 107; refine (C107.out _).mono ?_; rintro e w' ⟨rfl, rfl⟩)
          | (go_at_call 108; refine (C108.out _).mono ?_; rintro e w' ⟨rfl, rfl⟩)
          | (go_at_call 110; refine (refKeywords_any _).mono ?_; rintro e w2 ⟨v2, rfl, hb2, hs2⟩; have HS2 := Lib.hid hs2; have HX := HNEW.out.below hb2 HNEW.out.lt; have HB2 := Lib.hid (HBW.out.trans (hb2.mono HBW.out.size)); have c0 := HX.c0; have c1 := HX.c1; have c1' := HX.c1'; have c2' := HX.c2'; have f0 := HX.f0; clear hb2 hs2)
          | (go_at_call 109; refine (has_any _ kwL r _ (by decide) HS2.out).mono ?_; rintro e w' ⟨rfl, rfl⟩; rw [HK.out, HKW.out]))
        refine bodyPost_ret (results_token (HX.set _ _ _) rfl rfl) rfl ?_
        rw [HV.out]
        exact ⟨rfl, Box3.low HB2.out (Nat.le_refl _) _ _ _⟩
      · have hkw' : isKw r = false := by simpa using hkw
        have HK := Lib.hid (hasP_kw r)
        have HKW := Lib.hid hkw'
        by_cases h12 : 12 < r.size
        · have HV := Lib.hid (tokVal_eq (by rw [HT.out, if_neg hkw, if_pos h12]))
          clear hkw hkw'
          go_enter Tryd.func89, Tryd.ntmps89
          go_wp2_with (first
            | (go_at_call 107; refine (C107.out _).mono ?_; rintro e w' ⟨rfl, rfl⟩)
            | (go_at_call 108; refine (C108.out _).mono ?_; rintro e w' ⟨rfl, rfl⟩)
            | (go_at_call 110; refine (refKeywords_any _).mono ?_; rintro e w2 ⟨v2, rfl, hb2, hs2⟩; have HS2 := Lib.hid hs2; have HX := HNEW.out.below hb2 HNEW.out.lt; have HB2 := Lib.hid (HBW.out.trans (hb2.mono HBW.out.size)); have c0 := HX.c0; have c1 := HX.c1; have c1' := HX.c1'; have c2' := HX.c2'; have f0 := HX.f0; clear hb2 hs2)
            | (go_at_call 109; refine (has_any _ kwL r _ (by decide) HS2.out).mono ?_; rintro e w' ⟨rfl, rfl⟩; rw [HK.out, HKW.out]))
          refine bodyPost_ret (results_token (HX.set _ _ _) rfl rfl) rfl ?_
          rw [HV.out]
          exact ⟨rfl, Box3.low HB2.out (Nat.le_refl _) _ _ _⟩
        · have HV := Lib.hid (tokVal_eq (by rw [HT.out, if_neg hkw, if_neg h12]))
          clear hkw hkw'
          go_enter Tryd.func89, Tryd.ntmps89
          go_wp2_with (first
            | (go_at_call 107; refine (C107.out _).mono ?_; rintro e w' ⟨rfl, rfl⟩)
            | (go_at_call 108; refine (C108.out _).mono ?_; rintro e w' ⟨rfl, rfl⟩)
            | (go_at_call 110; refine (refKeywords_any _).mono ?_; rintro e w2 ⟨v2, rfl, hb2, hs2⟩; have HS2 := Lib.hid hs2; have HX := HNEW.out.below hb2 HNEW.out.lt; have HB2 := Lib.hid (HBW.out.trans (hb2.mono HBW.out.size)); have c0 := HX.c0; have c1 := HX.c1; have c1' := HX.c1'; have c2' := HX.c2'; have f0 := HX.f0; clear hb2 hs2)
            | (go_at_call 109; refine (has_any _ kwL r _ (by decide) HS2.out).mono ?_; rintro e w' ⟨rfl, rfl⟩; rw [HK.out, HKW.out]))
          refine bodyPost_ret (results_token (HX.set _ _ _) rfl rfl) rfl ?_
          rw [HV.out]
          exact ⟨rfl, Box3.low HB2.out (Nat.le_refl _) _ _ _⟩
    · have hsm' : smB s[k].toNat = false := by simpa using hsm
      have C108 := Lib.hid (show ∀ w, Calls Tryd.prog 108 #[.int .u8 s[k].toNat] w fun e w' => e = .returned (.bool false) ∧ w = w' from fun w => hsm' ▸ isSmall_any _ w)
      by_cases hdg : dgB s[k].toNat = true
      · have C111 := Lib.hid (show ∀ w, Calls Tryd.prog 111 #[.int .u8 s[k].toNat] w fun e w' => e = .returned (.bool true) ∧ w = w' from fun w => hdg ▸ isDigit_any _ w)
        have HT := Lib.hid (HT4.out ((cls4 _).2 hdg))
        have C112 := Lib.hid (fun w => refNumberError_any r w (by omega) hr0)
        clear hsm hsm' hdg HT2 HT4 HTE HRE
        by_cases hne0 : numErr r = 0
        · have HV := Lib.hid (tokVal_eq (by rw [HT.out, if_pos hne0]))
          rw [hne0] at C112
          clear hne0
          have c0 := HNEW.out.c0
          have c1 := HNEW.out.c1
          have c1' := HNEW.out.c1'
          have c2' := HNEW.out.c2'
          have f0 := HNEW.out.f0
          go_enter Tryd.func89, Tryd.ntmps89
          go_wp2_with (first
            | (go_at_call 107; refine (C107.out _).mono ?_; rintro e w' ⟨rfl, rfl⟩)
            | (go_at_call 108; refine (C108.out _).mono ?_; rintro e w' ⟨rfl, rfl⟩)
            | (go_at_call 111; refine (C111.out _).mono ?_; rintro e w' ⟨rfl, rfl⟩)
            | (go_at_call 112; refine (C112.out _).mono ?_; rintro e w' ⟨rfl, rfl⟩))
          refine bodyPost_ret (results_token (Box3.new _ _ _ _) rfl rfl) rfl ?_
          rw [HV.out]
          exact ⟨rfl, (Below.refl _ _).alloc (Nat.le_refl _) _⟩
        · have HV := Lib.hid (tokVal_eq (by rw [HT.out, if_neg hne0]))
          have heb : (numErr r != 0) = true := by simpa using hne0
          have HE0 := Lib.hid hne0
          clear hne0
          have c0 := HNEW.out.c0
          have c1 := HNEW.out.c1
          have c1' := HNEW.out.c1'
          have c2' := HNEW.out.c2'
          have f0 := HNEW.out.f0
          go_enter Tryd.func89, Tryd.ntmps89
          go_wp2_with (first
            | (go_at_call 107; refine (C107.out _).mono ?_; rintro e w' ⟨rfl, rfl⟩)
            | (go_at_call 108; refine (C108.out _).mono ?_; rintro e w' ⟨rfl, rfl⟩)
            | (go_at_call 111; refine (C111.out _).mono ?_; rintro e w' ⟨rfl, rfl⟩)
            | (go_at_call 112; refine (C112.out _).mono ?_; rintro e w' ⟨rfl, rfl⟩))
          refine bodyPost_ret (results_token (Box3.new _ _ _ _) rfl rfl) rfl ?_
          rw [HV.out, if_neg HE0.out]
          exact ⟨rfl, (Below.refl _ _).alloc (Nat.le_refl _) _⟩
      · have hdg' : dgB s[k].toNat = false := by simpa using hdg
        have C111 := Lib.hid (show ∀ w, Calls Tryd.prog 111 #[.int .u8 s[k].toNat] w fun e w' => e = .returned (.bool false) ∧ w = w' from fun w => hdg' ▸ isDigit_any _ w)
        have HT := Lib.hid (HTE.out (fun e => hsm ((cls2 _).1 e)) (fun e => hdg ((cls4 _).1 e)))
        clear hsm hsm' hdg hdg' HT2 HT4 HTE HRE
        go_enter Tryd.func89, Tryd.ntmps89
        go_wp2_with (first
          | (go_at_call 107; refine (C107.out _).mono ?_; rintro e w' ⟨rfl, rfl⟩)
          | (go_at_call 108; refine (C108.out _).mono ?_; rintro e w' ⟨rfl, rfl⟩)
          | (go_at_call 111; refine (C111.out _).mono ?_; rintro e w' ⟨rfl, rfl⟩)
          | (go_at_call 113; refine (refSigns_any _).mono ?_; rintro e w2 ⟨v2, rfl, hb2, hs2⟩; have HX := HNEW.out.below hb2 HNEW.out.lt; have HXX := Lib.hid HX; have HB2 := Lib.hid (HBW.out.trans (hb2.mono HBW.out.size)); obtain ⟨A2, q2, rfl, hA2⟩ := hs2; have HA2 := Lib.hid hA2; clear hb2 hA2 HX))
        go_loopw [9] (fun i wr => ∃ j : Nat, j ≤ 16 ∧ i = .int .i64 j ∧ Hid (firstSign s k signL = firstSign s k (signL.drop j)) ∧ Hid (Below w2.heap.size w2 wr)) (fun i _ => 16 - (intOf i).toNat)
        case atStart => exact ⟨0, by omega, rfl, Lib.hid rfl, Lib.hid (Below.refl _ _)⟩
        case round =>
          obtain ⟨j, hj, rfl, HJ, HBB⟩ := hrel
          have HX := HXX.out.below HBB.out HXX.out.lt
          have HB3 := Lib.hid (HB2.out.trans (HBB.out.mono HB2.out.size))
          by_cases hlt : j < 16
          · obtain ⟨x, hx⟩ : ∃ x, signL[j]? = some x := ⟨_, List.getElem?_eq_getElem (show j < signL.length from hlt)⟩
            obtain ⟨bb, off, rfl, hB, g1⟩ := HA2.out j x hx
            have g2 := (HBB.out.cell (p := ⟨bb, _, none⟩) hB).trans g1
            have hx2 := signL_small x (List.mem_of_getElem? hx)
            have HXJ := Lib.hid hx
            have C114 := Lib.hid (fun w => beginsAt_any s x k w hs (by omega) (by omega))
            clear hx g1
            by_cases hbp : begP s k x = true
            · have HV := Lib.hid (tokVal_eq (by rw [HT.out, HJ.out, firstSign_step s k signL j x HXJ.out, if_pos hbp]))
              rw [hbp] at C114
              have c0 := HX.c0
              have c1 := HX.c1
              have c1' := HX.c1'
              have c2' := HX.c2'
              have f0 := HX.f0
              clear hbp
              go_wp2_with (go_at_call 114; refine (C114.out _).mono ?_; rintro e w' ⟨rfl, rfl⟩)
              refine bodyPost_ret (results_token (HX.set _ _ _) rfl rfl) rfl ?_
              rw [HV.out]
              exact ⟨rfl, Box3.low HB3.out (Nat.le_refl _) _ _ _⟩
            · have hbp' : begP s k x = false := by simpa using hbp
              have HN := Lib.hid (show firstSign s k signL = firstSign s k (signL.drop (j + 1)) by rw [HJ.out, firstSign_step s k signL j x HXJ.out, if_neg hbp])
              rw [hbp'] at C114
              clear hbp hbp'
              go_wp2_with (go_at_call 114; refine (C114.out _).mono ?_; rintro e w' ⟨rfl, rfl⟩)
              go_roundw
              case rel => exact ⟨j + 1, by omega, by go_num, HN, HBB⟩
              case measure => simp [intOf]; omega
          · have HV := Lib.hid (tokVal_eq (by rw [HT.out, HJ.out, List.drop_eq_nil_of_le (show signL.length ≤ j by show 16 ≤ j; omega)]))
            have c0 := HX.c0
            have c1 := HX.c1
            have c1' := HX.c1'
            have c2' := HX.c2'
            have f0 := HX.f0
            go_wp2_with fail
            refine bodyPost_ret (results_token (HX.set _ _ _) rfl rfl) rfl ?_
            rw [HV.out]
            exact ⟨rfl, Box3.low HB3.out (Nat.le_refl _) _ _ _⟩
  · have hr00 : r.size = 0 := by omega
    have hne : r.toList.isEmpty = true := by
      rw [Lib.toList_data, List.isEmpty_iff]
      exact List.eq_nil_of_length_eq_zero (by simpa using hr00)
    have HC := Lib.hid (HRE.out.1 hr00)
    have HT := Lib.hid (HTE.out (fun e => HC.out (.inl e)) (fun e => HC.out (.inr (.inr e))))
    clear HT2 HT4 HTE HRE hr00
    go_enter Tryd.func89, Tryd.ntmps89
    go_wp2_with (first
      | (go_at_call 107; refine (C107.out _).mono ?_; rintro e w' ⟨rfl, rfl⟩)
      | (go_at_call 113; refine (refSigns_any _).mono ?_; rintro e w2 ⟨v2, rfl, hb2, hs2⟩; have HX := HNEW.out.below hb2 HNEW.out.lt; have HXX := Lib.hid HX; have HB2 := Lib.hid (HBW.out.trans (hb2.mono HBW.out.size)); obtain ⟨A2, q2, rfl, hA2⟩ := hs2; have HA2 := Lib.hid hA2; clear hb2 hA2 HX))
    go_loopw [9] (fun i wr => ∃ j : Nat, j ≤ 16 ∧ i = .int .i64 j ∧ Hid (firstSign s k signL = firstSign s k (signL.drop j)) ∧ Hid (Below w2.heap.size w2 wr)) (fun i _ => 16 - (intOf i).toNat)
    case atStart => exact ⟨0, by omega, rfl, Lib.hid rfl, Lib.hid (Below.refl _ _)⟩
    case round =>
      obtain ⟨j, hj, rfl, HJ, HBB⟩ := hrel
      have HX := HXX.out.below HBB.out HXX.out.lt
      have HB3 := Lib.hid (HB2.out.trans (HBB.out.mono HB2.out.size))
      by_cases hlt : j < 16
      · obtain ⟨x, hx⟩ : ∃ x, signL[j]? = some x := ⟨_, List.getElem?_eq_getElem (show j < signL.length from hlt)⟩
        obtain ⟨bb, off, rfl, hB, g1⟩ := HA2.out j x hx
        have g2 := (HBB.out.cell (p := ⟨bb, _, none⟩) hB).trans g1
        have hx2 := signL_small x (List.mem_of_getElem? hx)
        have HXJ := Lib.hid hx
        have C114 := Lib.hid (fun w => beginsAt_any s x k w hs (by omega) (by omega))
        clear hx g1
        by_cases hbp : begP s k x = true
        · have HV := Lib.hid (tokVal_eq (by rw [HT.out, HJ.out, firstSign_step s k signL j x HXJ.out, if_pos hbp]))
          rw [hbp] at C114
          have c0 := HX.c0
          have c1 := HX.c1
          have c1' := HX.c1'
          have c2' := HX.c2'
          have f0 := HX.f0
          clear hbp
          go_wp2_with (go_at_call 114; refine (C114.out _).mono ?_; rintro e w' ⟨rfl, rfl⟩)
          refine bodyPost_ret (results_token (HX.set _ _ _) rfl rfl) rfl ?_
          rw [HV.out]
          exact ⟨rfl, Box3.low HB3.out (Nat.le_refl _) _ _ _⟩
        · have hbp' : begP s k x = false := by simpa using hbp
          have HN := Lib.hid (show firstSign s k signL = firstSign s k (signL.drop (j + 1)) by rw [HJ.out, firstSign_step s k signL j x HXJ.out, if_neg hbp])
          rw [hbp'] at C114
          clear hbp hbp'
          go_wp2_with (go_at_call 114; refine (C114.out _).mono ?_; rintro e w' ⟨rfl, rfl⟩)
          go_roundw
          case rel => exact ⟨j + 1, by omega, by go_num, HN, HBB⟩
          case measure => simp [intOf]; omega
      · have HV := Lib.hid (tokVal_eq (by rw [HT.out, HJ.out, List.drop_eq_nil_of_le (show signL.length ≤ j by show 16 ≤ j; omega)]))
        have c0 := HX.c0
        have c1 := HX.c1
        have c1' := HX.c1'
        have c2' := HX.c2'
        have f0 := HX.f0
        go_wp2_with fail
        refine bodyPost_ret (results_token (HX.set _ _ _) rfl rfl) rfl ?_
        rw [HV.out]
        exact ⟨rfl, Box3.low HB3.out (Nat.le_refl _) _ _ _⟩
end Go.Proofs.YtjadjmkbjolklaaDoor
