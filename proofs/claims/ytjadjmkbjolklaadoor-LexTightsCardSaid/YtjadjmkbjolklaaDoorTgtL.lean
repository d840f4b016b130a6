/- LexBack, the call. -/
import Derived.Test.YtjadjmkbjolklaaDoorTgtJ
import Derived.StillTailTactics
namespace Go.Proofs.YtjadjmkbjolklaaDoor
open Go.RowKit

theorem cut_data (T : ByteArray) (i : Nat) : (T.extract 0 i ++ T.extract (i + 1) T.size).data.toList = T.data.toList.take i ++ T.data.toList.drop (i + 1) := by
  simp [List.take_of_length_le]

theorem listErr_ok {l : List Tk} (h : listErr l = 0) : l.length ≤ 900 ∧ ∀ x ∈ l, rightT x = true := by
  unfold listErr at h
  split at h
  · cases h
  · split at h
    · rename_i h1 h2
      exact ⟨by omega, List.all_eq_true.1 h2⟩
    · cases h

theorem tight_ok {l : List Tk} (h : (tightRes l).2 = 0) : listErr l = 0 ∧ (tgtAt l l.length).length ≤ 2500 := by
  by_cases h0 : listErr l = 0
  · by_cases h1 : 2500 < (tgtAt l l.length).length
    · rw [tight_long h0 h1] at h
      cases h
    · exact ⟨h0, by omega⟩
  · rw [tight_bad h0] at h
    exact absurd h h0

theorem right_size {x : Tk} (h : rightT x = true) : 0 < x.text.size := by
  obtain ⟨c, q, h1, _⟩ := right_pc h
  have : x.text.data.toList.length = x.text.size := by simp
  rw [h1, List.length_cons] at this
  omega

set_option maxRecDepth 100000 in
set_option maxHeartbeats 4000000 in
theorem back_any' (v : Value) (l : List Tk) (w : World) (hl : l.length ≤ 140737488355328) (ht : ∀ x ∈ l, x.text.size ≤ 140737488355328) (hn : NumVars w) (hv : TkIn w w.heap.size v l) :
    Calls Tryd.prog 10 #[v] w fun e w' => e = .returned (.bool true) ∧ Below w.heap.size w w' := by
  have HN := Lib.hid hn
  have HV := Lib.hid hv
  obtain ⟨A, c, rfl, hA⟩ := hv
  clear hA
  by_cases h200 : 200 < l.length
  · clear ht hn
    go_enter Tryd.func10, Tryd.ntmps10
    go_wp2_with (go_at_call 17; refine (awake_any _ HN.out).mono ?_; rintro e w1 ⟨rfl, hb1⟩)
    go_ret
    exact ⟨rfl, hb1⟩
  · have C27 := Lib.hid (fun w h => (short_any (.slice A l.length c) l w hl ht h).mono fun e w' h' => (⟨h'.1, h'.2.symm⟩ : e = .returned (.bool (shortB l)) ∧ w = w'))
    by_cases hsh : shortB l = true
    · have hall : ∀ x ∈ l, x.text.size ≤ 100 := by
        unfold shortB at hsh
        simp only [Bool.and_eq_true, List.all_eq_true, decide_eq_true_eq] at hsh
        exact hsh.1
      have hlen := tgtAt_len hall l.length (Nat.le_refl _)
      have hlen2 : l.length * (100 + 1) ≤ 200 * 101 := Nat.mul_le_mul (by omega) (Nat.le_refl _)
      have C28 := Lib.hid (fun w v h h' => tight_any v l w hl ht (by omega) h h')
      have HL := Lib.hid (show l.length * 32 ≤ 140737488355328 by omega)
      rw [hsh] at C27
      clear hall ht hn hsh
      by_cases htc : (tightRes l).2 = 0
      · obtain ⟨h0, h25⟩ := tight_ok htc
        obtain ⟨h9, hr⟩ := listErr_ok h0
        have htr := tight_fine h0 (by omega)
        have hT := tight_tokens hr h9 h25
        have hsm := tkP_same l [] 0
        have HRISE := Lib.hid (tkP_rise l [] 0 (fun x hx => right_size (hr x hx)))
        have HNB := Lib.hid (fun i (hi : (tgtAt l l.length)[i]? = some 32) u hu he => no_blank hr hi (u := u) hu he)
        have hp9 : (tkP 0 l []).length ≤ 900 := by rw [tkP_length]; exact h9
        rw [htr] at C28
        generalize tkP 0 l [] = P at hT hsm HRISE hp9
        have hsz : (⟨(tgtAt l l.length).toArray⟩ : ByteArray).size = (tgtAt l l.length).length := by simp [ByteArray.size]
        have hdt : (⟨(tgtAt l l.length).toArray⟩ : ByteArray).data.toList = tgtAt l l.length := by simp
        have C28' : Hid (∀ w v, NumVars w → TkIn w w.heap.size v l → Calls Tryd.prog 28 #[v] w fun e w' => e = .returned (.tuple #[.string ⟨(tgtAt l l.length).toArray⟩, .int .i64 0]) ∧ Below w.heap.size w w') := C28
        clear C28
        generalize (⟨(tgtAt l l.length).toArray⟩ : ByteArray) = T at hT C28' hsz hdt
        rw [← hdt] at HNB
        have hT25 : T.size ≤ 2500 := by omega
        have C18 : Hid (∀ w, NumVars w → Calls Tryd.prog 18 #[.string T] w fun e w' => ∃ v, e = .returned (.tuple #[v, .int .i64 0, .int .i64 0]) ∧ Below w.heap.size w w' ∧ OwnToks w' w.heap.size v P) := Lib.hid (fun w h => by
          have := tokens_any T w (by omega) h
          rw [hT] at this
          exact this)
        have hK : sameK l (P.map Piece.tk) = true := by
          rw [← sameB_K]
          exact decide_eq_true hsm
        have C47 := Lib.hid (fun v v' w h h' => sameBut_any v v' l (P.map Piece.tk) w (by omega) (by rw [List.length_map]; omega) h h')
        rw [hK] at C47
        clear hK hsm hT htr h0 h25 hr htc hsz hdt hlen hlen2 h9
        go_enter Tryd.func10, Tryd.ntmps10
        go_wp2_with (first
          | (go_at_call 27; refine (C27.out _ HV.out).mono ?_; rintro e w1 ⟨rfl, rfl⟩)
          | (at_builtin; refine wpList_append_tok rfl _ _ rfl _ A l.length c l rfl rfl HV.out HL.out ?_; intro v2 w2 ht2 hb2; have HT2 := Lib.hid ht2; have HB2 := Lib.hid hb2; have HN2 := Lib.hid (HN.out.keep hb2); clear ht2 hb2)
          | (go_at_call 28; refine (C28'.out _ _ HN2.out HT2.out).mono ?_; rintro e w3 ⟨rfl, hb3⟩; have HB3 := Lib.hid (HB2.out.trans (hb3.mono HB2.out.size)); have HN3 := Lib.hid (HN2.out.keep hb3); clear hb3 HB2 HN2 HT2 C28')
          | (go_at_call 18; refine (C18.out _ HN3.out).mono ?_; rintro e w4 ⟨v4, rfl, hb4, ht4⟩; have HB4 := Lib.hid (HB3.out.trans (hb4.mono HB3.out.size)); have HN4 := Lib.hid (HN3.out.keep hb4); have HV4 := Lib.hid ((HV.out.below HB4.out).more HB4.out.size); have HP4 := Lib.hid (tokIn_of_own ht4); have HT4 := Lib.hid (tkIn_of_tok (tokIn_of_own ht4)); obtain ⟨A4, c4, rfl, _⟩ := own_cap ht4; clear hb4 ht4 HB3 HN3 C18)
          | (go_at_call 47; refine (C47.out _ _ _ HV4.out HT4.out).mono ?_; rintro e w5 ⟨rfl, hb5⟩; have HB5 := Lib.hid (HB4.out.trans (hb5.mono HB4.out.size)); have HN5 := Lib.hid (HN4.out.keep hb5); have HP5 := Lib.hid ((HP4.out.below hb5).more hb5.size); clear hb5 HB4 HN4 HP4 HT4 HV4 C47))
        go_loopw [8] (fun i wr => ∃ k : Nat, k ≤ P.length ∧ i = .int .i64 k ∧ Hid (Below w5.heap.size w5 wr)) (fun i _ => P.length - (intOf i).toNat)
        case atStart => exact ⟨0, by omega, rfl, Lib.hid (Below.refl _ _)⟩
        case round =>
          obtain ⟨k, hk, rfl, HW⟩ := hrel
          by_cases hkp : k < P.length
          · obtain ⟨x, hx⟩ : ∃ x, P[k]? = some x := ⟨_, List.getElem?_eq_getElem hkp⟩
            obtain ⟨A', c', e', hA⟩ := HP5.out.below HW.out
            cases e'
            obtain ⟨b, off, rfl, hB, g1, g2, g3⟩ := hA k x hx
            by_cases h0 : k = 0
            · have t1 : decide ((0 : Int) < k) = false := by simp; omega
              have t1n : decide (0 < k) = false := by simp; omega
              clear h0 hA hx g1 g2
              go_wp2_with fail
              go_quiet (fail)
              go_wp2_with fail
              go_roundw
              case rel => exact ⟨k + 1, by omega, by go_num, Lib.hid (below_drewN HW.out _)⟩
              case measure => simp [intOf]; omega
            · obtain ⟨n, hn⟩ : ∃ n, n = k - 1 := ⟨_, rfl⟩
              have hnk : n < P.length := by omega
              obtain ⟨y, hy⟩ : ∃ y, P[n]? = some y := ⟨_, List.getElem?_eq_getElem hnk⟩
              obtain ⟨b', off', e', hB', q1, q2, q3⟩ := hA n y hy
              cases e'
              have hyx := HRISE.out n y x hy (by rw [show n + 1 = k by omega]; exact hx)
              have w1' : IntKind.i64.wrap ((k : Int) - 1) = n := by rw [IntKind.wrap_i64]; omega
              have t1 : decide ((0 : Int) < k) = true := by simp; omega
              have t1n : decide (0 < k) = true := by simp; omega
              have t2 : decide ((x.at_ : Int) ≤ y.at_) = false := by simp; omega
              have t2n : decide (x.at_ ≤ y.at_) = false := by simp; omega
              clear hA g1 g2 q1 q2 hx hy hn h0 hyx
              go_wp2_with fail
              go_quiet (fail)
              go_wp2_with fail
              go_roundw
              case rel => exact ⟨k + 1, by omega, by go_num, Lib.hid (below_drewN HW.out _)⟩
              case measure => simp [intOf]; omega
          · have HB6 := Lib.hid (HB5.out.trans (HW.out.mono HB5.out.size))
            clear HP5 HRISE
            go_wp2_with fail
            obtain ⟨wo, rfl⟩ : ∃ wo : World, wo = wr := ⟨_, rfl⟩
            go_loopw [9] (fun i wr => ∃ k : Nat, k ≤ T.size ∧ i = .int .i64 k ∧ Hid (Below w.heap.size w wr)) (fun i _ => T.size - (intOf i).toNat)
            case atStart => exact ⟨0, by omega, rfl, HB6⟩
            case round =>
              obtain ⟨j, hj, rfl, HX⟩ := hrel
              by_cases hjt : j < T.size
              · have i1 := idxb T j hjt
                by_cases h32 : T[j].toNat = 32
                · have q1 : (((T[j]!).toNat : Int) != 32) = false := by rw [getBang T j hjt, h32]; rfl
                  obtain ⟨m, hm⟩ : ∃ m, m = j + 1 := ⟨_, rfl⟩
                  have w1' : IntKind.i64.wrap ((j : Int) + 1) = m := by rw [IntKind.wrap_i64]; omega
                  have hmT : m ≤ T.size := by omega
                  have hdat := cut_data T j
                  rw [← hm] at hdat
                  have h32' : T.data.toList[j]? = some 32 := by
                    rw [List.getElem?_eq_getElem (by simpa using hjt)]
                    exact congrArg some (UInt8.toNat.inj h32)
                  have HS := Lib.hid (HNB.out j h32' (T.extract 0 j ++ T.extract m T.size) (by rw [hdat, hm]))
                  have hus : (T.extract 0 j ++ T.extract m T.size).size ≤ 2500 := by rw [ByteArray.size_append, ByteArray.size_extract, ByteArray.size_extract]; omega
                  have hz1 : (T.extract 0 j).size + (T.extract m T.size).size ≤ 2500 := by rw [ByteArray.size_extract, ByteArray.size_extract]; omega
                  have C18u := Lib.hid (fun w h => tokens_any (T.extract 0 j ++ T.extract m T.size) w (by omega) h)
                  have HLU := Lib.hid (lexTokens_len (T.extract 0 j ++ T.extract m T.size))
                  have HM := Lib.hid hm
                  clear hdat h32' h32 hm
                  generalize (T[j]!).toNat = bt at i1 q1
                  have HBD := Lib.hid HX.out.drew
                  have HND := Lib.hid (HN.out.keep HX.out.drew)
                  go_wp2_with fail
                  generalize (lexTokens (T.extract 0 j ++ T.extract m T.size)).1 = q at C18u HS HLU
                  generalize (lexTokens (T.extract 0 j ++ T.extract m T.size)).2.1 = z at C18u
                  generalize (lexTokens (T.extract 0 j ++ T.extract m T.size)).2.2 = e0 at C18u HS
                  go_region_with (go_at_call 18; refine (C18u.out _ HND.out).mono ?_; rintro e w7 ⟨v7, rfl, hb7, ht7⟩)
                  have HB7 := Lib.hid (HBD.out.trans (hb7.mono HBD.out.size))
                  have HV7 := Lib.hid ((HV.out.below HB7.out).more HB7.out.size)
                  have HT7 := Lib.hid (tkIn_of_tok (tokIn_of_own ht7))
                  clear hb7 ht7
                  by_cases he0 : e0 = 0
                  · have q2 : (e0 == 0) = true := by simpa using he0
                    have C47u := Lib.hid (fun v v' w h h' => sameBut_any v v' l (q.map Piece.tk) w hl (by rw [List.length_map]; exact HLU.out) h h')
                    have hKu : sameK l (q.map Piece.tk) = false := by rw [← sameB_K]; exact HS.out he0
                    rw [hKu] at C47u
                    clear hKu he0
                    go_wp2_with (go_at_call 47; refine (C47u.out _ _ _ HV7.out HT7.out).mono ?_; rintro e w8 ⟨rfl, hb8⟩; have HB8 := Lib.hid (HB7.out.trans (hb8.mono HB7.out.size)); clear hb8)
                    go_roundw
                    case rel => exact ⟨m, hmT, by go_num, HB8⟩
                    case measure =>
                      have := HM.out
                      simp [intOf]
                      omega
                  · have q2 : (e0 == 0) = false := by simpa using he0
                    clear he0
                    go_wp2_with fail
                    go_roundw
                    case rel => exact ⟨m, hmT, by go_num, HB7⟩
                    case measure =>
                      have := HM.out
                      simp [intOf]
                      omega
                · have q1 : (((T[j]!).toNat : Int) != 32) = true := by
                    rw [getBang T j hjt]
                    simp only [bne_iff_ne, ne_eq]
                    omega
                  generalize (T[j]!).toNat = bt at i1 q1
                  go_wp2_with fail
                  go_roundw
                  case rel => exact ⟨j + 1, by omega, by go_num, HX⟩
                  case measure => simp [intOf]; omega
              · have HN6 := Lib.hid (HN.out.keep HX.out)
                go_wp2_with (go_at_call 17; refine (awake_any _ HN6.out).mono ?_; rintro e w7 ⟨rfl, hb7⟩)
                go_ret
                exact ⟨rfl, HX.out.trans (hb7.mono HX.out.size)⟩
      · have heb : ((tightRes l).2 != 0) = true := by simpa using htc
        generalize tightRes l = r at C28 heb
        obtain ⟨r1, r2⟩ := r
        clear htc
        go_enter Tryd.func10, Tryd.ntmps10
        go_wp2_with (first
          | (go_at_call 27; refine (C27.out _ HV.out).mono ?_; rintro e w1 ⟨rfl, rfl⟩)
          | (at_builtin; refine wpList_append_tok rfl _ _ rfl _ A l.length c l rfl rfl HV.out HL.out ?_; intro v2 w2 ht2 hb2; have HT2 := Lib.hid ht2; have HB2 := Lib.hid hb2; have HN2 := Lib.hid (HN.out.keep hb2); clear ht2 hb2)
          | (go_at_call 28; refine (C28.out _ _ HN2.out HT2.out).mono ?_; rintro e w3 ⟨rfl, hb3⟩; have HB3 := Lib.hid (HB2.out.trans (hb3.mono HB2.out.size)); have HN3 := Lib.hid (HN2.out.keep hb3); clear hb3)
          | (go_at_call 17; refine (awake_any _ HN3.out).mono ?_; rintro e w4 ⟨rfl, hb4⟩))
        go_ret
        exact ⟨rfl, HB3.out.trans (hb4.mono HB3.out.size)⟩
    · have hsf : shortB l = false := by simpa using hsh
      rw [hsf] at C27
      clear ht hn hsh hsf
      go_enter Tryd.func10, Tryd.ntmps10
      go_wp2_with (first
        | (go_at_call 27; refine (C27.out _ HV.out).mono ?_; rintro e w1 ⟨rfl, rfl⟩)
        | (go_at_call 17; refine (awake_any _ HN.out).mono ?_; rintro e w4 ⟨rfl, hb4⟩))
      go_ret
      exact ⟨rfl, hb4⟩
end Go.Proofs.YtjadjmkbjolklaaDoor
