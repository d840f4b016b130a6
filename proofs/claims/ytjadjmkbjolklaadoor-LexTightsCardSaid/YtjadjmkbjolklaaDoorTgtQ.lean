/- LexTights: whatever tokens. -/
import Derived.Test.YtjadjmkbjolklaaDoorTgtP
import Derived.Test.YtjadjmkbjolklaaDoorTgtL
namespace Go.Proofs.YtjadjmkbjolklaaDoor
open Go Go.RowKit

theorem prsGo_len (l : List Tk) : ∀ (f k : Nat) (ps : List Int) (os : List Nat), (prsGo l f k ps os).1.length ≤ ps.length + f
  | 0, k, ps, os => by
    unfold prsGo
    cases os with
    | nil => exact Nat.le_refl _
    | cons j os => exact Nat.zero_le _
  | f + 1, k, ps, os => by
    unfold prsGo
    cases h : prsStep l k ps os with
    | none => exact Nat.zero_le _
    | some q =>
      obtain ⟨ps', os'⟩ := q
      have h2 := prsGo_len l f (k + 1) ps' os'
      have h3 : ps'.length = ps.length + 1 := by
        unfold prsStep at h
        split at h
        · cases h
          simp
        · split at h
          · cases h
            simp
          · split at h
            · cases h
            · split at h
              · cases h
                simp
              · cases h
      show (prsGo l f (k + 1) ps' os').1.length ≤ _
      omega

theorem pairsRes_len (l : List Tk) : (pairsRes l).1.length ≤ l.length := by
  unfold pairsRes
  split
  · exact Nat.zero_le _
  · have := prsGo_len l l.length 0 [] []
    simpa using this

set_option maxRecDepth 100000 in
set_option maxHeartbeats 1000000 in
theorem tights_any (v : Value) (l : List Tk) (w : World) (hl : l.length ≤ 140737488355328) (ht : ∀ x ∈ l, x.text.size ≤ 140737488355328) (hn : NumVars w) (hv : TkIn w w.heap.size v l) :
    Calls Tryd.prog 5 #[v] w fun e w' => e = .returned (.bool true) ∧ Below w.heap.size w w' := by
  have HN := Lib.hid hn
  have HV := Lib.hid hv
  obtain ⟨A, c, rfl, hA⟩ := hv
  clear hA
  have C27 := Lib.hid (fun w h => (short_any (.slice A l.length c) l w hl ht h).mono fun e w' h' => (⟨h'.1, h'.2.symm⟩ : e = .returned (.bool (shortB l)) ∧ w = w'))
  by_cases hsh : shortB l = true
  · have hall : (∀ x ∈ l, x.text.size ≤ 100) ∧ l.length ≤ 1000 := by
      unfold shortB at hsh
      simp only [Bool.and_eq_true, List.all_eq_true, decide_eq_true_eq] at hsh
      exact hsh
    have hlen := tgtAt_len hall.1 l.length (Nat.le_refl _)
    have hlen2 : l.length * (100 + 1) ≤ 1000 * 101 := Nat.mul_le_mul hall.2 (Nat.le_refl _)
    have h1000 := hall.2
    have C28 := Lib.hid (fun w v h h' => tight_any v l w hl ht (by omega) h h')
    have C29 := Lib.hid (fun w v h' => refTight_any v l w hl ht (by omega) h')
    have C30 := Lib.hid (fun w v h h' => pairs_any v l w (by omega) ht h h')
    have C31 := Lib.hid (fun w v h' => refPairs_any v l w (by omega) ht h')
    have C32 := Lib.hid (fun v v' w h h' => sameInts_any v v' (pairsRes l).1 w (by have := pairsRes_len l; omega) h h')
    have HL := Lib.hid (show l.length * 32 ≤ 140737488355328 by omega)
    rw [hsh] at C27
    clear hall ht hn hsh hlen hlen2
    generalize tightRes l = r at C28 C29
    obtain ⟨r1, r2⟩ := r
    generalize pairsRes l = z at C30 C31 C32
    obtain ⟨z1, z2, z3⟩ := z
    simp only at C28 C29 C30 C31 C32
    generalize (⟨r1.toArray⟩ : ByteArray) = T at C28 C29
    go_enter Tryd.func5, Tryd.ntmps5
    go_wp2_with (first
      | (go_at_call 27; refine (C27.out _ HV.out).mono ?_; rintro e w1 ⟨rfl, rfl⟩)
      | (at_builtin; refine wpList_append_tok rfl _ _ rfl _ A l.length c l rfl rfl HV.out HL.out ?_; intro v2 w2 ht2 hb2; have HT2 := Lib.hid ht2; have HB2 := Lib.hid hb2; have HN2 := Lib.hid (HN.out.keep hb2); clear ht2 hb2)
      | (go_at_call 28; refine (C28.out _ _ HN2.out HT2.out).mono ?_; rintro e w3 ⟨rfl, hb3⟩; have HB3 := Lib.hid (HB2.out.trans (hb3.mono HB2.out.size)); have HN3 := Lib.hid (HN2.out.keep hb3); have HV3 := Lib.hid ((HV.out.below HB3.out).more HB3.out.size); clear hb3 HB2 HN2 HT2)
      | (go_at_call 29; refine (C29.out _ _ HV3.out).mono ?_; rintro e w4 ⟨rfl, hb4⟩; have HB4 := Lib.hid (HB3.out.trans (hb4.mono HB3.out.size)); have HN4 := Lib.hid (HN3.out.keep hb4); have HV4 := Lib.hid ((HV.out.below HB4.out).more HB4.out.size); clear hb4 HB3 HN3 HV3)
      | (at_builtin; refine wpList_append_tok rfl _ _ rfl _ A l.length c l rfl rfl HV4.out HL.out ?_; intro v5 w5 ht5 hb5; have HT5 := Lib.hid ht5; have HB5 := Lib.hid (HB4.out.trans (hb5.mono HB4.out.size)); have HN5 := Lib.hid (HN4.out.keep hb5); clear ht5 hb5 HB4 HN4 HV4)
      | (go_at_call 30; refine (C30.out _ _ HN5.out HT5.out).mono ?_; rintro e w6 ⟨v6, rfl, hb6, hi6⟩; have HB6 := Lib.hid (HB5.out.trans (hb6.mono HB5.out.size)); have HN6 := Lib.hid (HN5.out.keep hb6); have HI6 := Lib.hid hi6; have HV6 := Lib.hid ((HV.out.below HB6.out).more HB6.out.size); clear hb6 hi6 HB5 HN5 HT5)
      | (go_at_call 31; refine (C31.out _ _ HV6.out).mono ?_; rintro e w7 ⟨v7, rfl, hb7, hi7⟩; have HB7 := Lib.hid (HB6.out.trans (hb7.mono HB6.out.size)); have HN7 := Lib.hid (HN6.out.keep hb7); have HJ6 := Lib.hid ((HI6.out.below hb7).more hb7.size); have HI7 := Lib.hid hi7; clear hb7 hi7 HB6 HN6 HI6 HV6)
      | (go_at_call 32; refine (C32.out _ _ _ HJ6.out HI7.out).mono ?_; rintro e w8 ⟨rfl, hb8⟩; have HB8 := Lib.hid (HB7.out.trans (hb8.mono HB7.out.size)); have HN8 := Lib.hid (HN7.out.keep hb8); clear hb8 HB7 HN7 HJ6 HI7)
      | (go_at_call 17; refine (awake_any _ HN8.out).mono ?_; rintro e w9 ⟨rfl, hb9⟩))
    go_ret
    exact ⟨rfl, HB8.out.trans (hb9.mono HB8.out.size)⟩
  · have hsf : shortB l = false := by simpa using hsh
    rw [hsf] at C27
    clear ht hn hsh hsf
    go_enter Tryd.func5, Tryd.ntmps5
    go_wp2_with (first
      | (go_at_call 27; refine (C27.out _ HV.out).mono ?_; rintro e w1 ⟨rfl, rfl⟩)
      | (go_at_call 17; refine (awake_any _ HN.out).mono ?_; rintro e w4 ⟨rfl, hb4⟩))
    go_ret
    exact ⟨rfl, hb4⟩
end Go.Proofs.YtjadjmkbjolklaaDoor
