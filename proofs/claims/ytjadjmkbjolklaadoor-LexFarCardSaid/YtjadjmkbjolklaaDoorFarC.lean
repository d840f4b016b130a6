/- LexFar, the call. -/
import Derived.Test.YtjadjmkbjolklaaDoorFarB
import Derived.Test.YtjadjmkbjolklaaDoorAwakeB
import Derived.BigQuiet
import Derived.Deep.QuietTactic
namespace Go.Proofs.YtjadjmkbjolklaaDoor
open Go.RowKit

theorem bytes_mk (b : ByteArray) : (⟨b.data.toList.toArray⟩ : ByteArray) = b := by
  apply ByteArray.ext
  simp

theorem kept_ok {s : ByteArray} {x : Spl} (h : (keptRes s x).2.2 = 0) : (applyRes s [x]).2 = 0 ∧ (lexTokens s).2.2 = 0 ∧ (lexTokens ⟨(applyRes s [x]).1.toArray⟩).2.2 = 0 ∧
    keptRes s x = (((headG stayB (lexTokens s).1 (lexTokens ⟨(applyRes s [x]).1.toArray⟩).1 : Nat) : Int), ((headG (shiftB ((applyRes s [x]).1.length - s.size)) ((lexTokens s).1.drop (headG stayB (lexTokens s).1 (lexTokens ⟨(applyRes s [x]).1.toArray⟩).1)).reverse ((lexTokens ⟨(applyRes s [x]).1.toArray⟩).1.drop (headG stayB (lexTokens s).1 (lexTokens ⟨(applyRes s [x]).1.toArray⟩).1)).reverse : Nat) : Int), (0 : Int)) := by
  unfold keptRes at h ⊢
  by_cases h1 : (applyRes s [x]).2 = 0
  · rw [if_neg (by simp [h1])] at h ⊢
    by_cases h2 : (lexTokens s).2.2 = 0
    · rw [if_neg (by simp [h2])] at h ⊢
      by_cases h3 : (lexTokens ⟨(applyRes s [x]).1.toArray⟩).2.2 = 0
      · rw [if_neg (by simp [h3])]
        exact ⟨h1, h2, h3, rfl⟩
      · rw [if_pos h3] at h
        exact absurd h h3
    · rw [if_pos h2] at h
      exact absurd h h2
  · rw [if_pos h1] at h
    exact absurd h h1

/-- All that LexFar asks, where lex.Kept has no error. -/
theorem far_ok {s : ByteArray} {x : Spl} (h : (keptRes s x).2.2 = 0) : ∃ (t : ByteArray) (hd tl : Nat), (applyRes s [x]) = (t.data.toList, 0) ∧ t.size ≤ 2500 ∧ (lexTokens s).2.2 = 0 ∧ (lexTokens t).2.2 = 0 ∧ keptRes s x = ((hd : Int), (tl : Int), (0 : Int)) ∧ 0 ≤ x.from_ ∧ x.from_ ≤ x.to_ ∧ x.to_ ≤ s.size ∧
    beforeN x.from_ (lexTokens s).1 ≤ hd ∧ min (behindN (lineEndP s x.to_.toNat) (lexTokens s).1) (min ((lexTokens s).1.length - hd) ((lexTokens t).1.length - hd)) ≤ tl ∧ hd + tl ≤ (lexTokens s).1.length ∧ hd + tl ≤ (lexTokens t).1.length := by
  obtain ⟨h1, h2, h3, h4⟩ := kept_ok h
  obtain ⟨f1, f2, f3, f4⟩ := far_parts h1
  have hsz := apply_mk_size h1
  have hE : applyRes s [x] = ((⟨(applyRes s [x]).1.toArray⟩ : ByteArray).data.toList, 0) := by
    rw [mk_data]
    exact Prod.ext rfl h1
  have hlen : ((applyRes s [x]).1.length : Int) = (⟨(applyRes s [x]).1.toArray⟩ : ByteArray).size := by rw [size_mk]
  rw [hlen] at h4
  have ht : (⟨(applyRes s [x]).1.toArray⟩ : ByteArray).data.toList = s.data.toList.take x.from_.toNat ++ (x.text.data.toList ++ s.data.toList.drop x.to_.toNat) := by rw [mk_data]; exact f4
  generalize (⟨(applyRes s [x]).1.toArray⟩ : ByteArray) = t at *
  have g1 := headG_le stayB (lexTokens s).1 (lexTokens t).1
  have g2 := headG_le (shiftB ((t.size : Int) - s.size)) ((lexTokens s).1.drop (headG stayB (lexTokens s).1 (lexTokens t).1)).reverse ((lexTokens t).1.drop (headG stayB (lexTokens s).1 (lexTokens t).1)).reverse
  simp only [List.length_reverse, List.length_drop] at g2
  exact ⟨t, _, _, hE, hsz, h2, h3, h4, f1, f2, f3, far_before f1 f2 f3 ht h2 h3, far_behind f1 f2 f3 ht h2 h3 _, by omega, by omega⟩

theorem before_step {f : Int} {l : List Piece} {k : Nat} {p : Piece} (h : l[k]? = some p) : beforeN f (l.take (k + 1)) = beforeN f (l.take k) + if (p.at_ : Int) + p.text.size < f then 1 else 0 := by
  obtain ⟨hk, rfl⟩ := List.getElem?_eq_some_iff.1 h
  unfold beforeN
  rw [List.take_succ_eq_append_getElem hk, List.filter_append, List.length_append]
  split <;> rename_i h1 <;> simp [h1]

theorem behind_step {n : Nat} {l : List Piece} {k : Nat} {p : Piece} (h : l[k]? = some p) : behindN n (l.take (k + 1)) = behindN n (l.take k) + if n < p.at_ then 1 else 0 := by
  obtain ⟨hk, rfl⟩ := List.getElem?_eq_some_iff.1 h
  unfold behindN
  rw [List.take_succ_eq_append_getElem hk, List.filter_append, List.length_append]
  split <;> rename_i h1 <;> simp [h1]

theorem beforeN_le (f : Int) (l : List Piece) : beforeN f l ≤ l.length := List.length_filter_le _ _
theorem behindN_le (n : Nat) (l : List Piece) : behindN n l ≤ l.length := List.length_filter_le _ _

theorem pcOrd_in {n : Nat} : ∀ {f : Nat} {l : List Piece}, pcOrd n f l → ∀ x ∈ l, x.at_ + x.text.size ≤ n
  | _, [], _, x, h => by cases h
  | _, y :: r, ho, x, h => by
    rcases List.mem_cons.1 h with rfl | h
    · exact ho.2.1
    · exact pcOrd_in ho.2.2 x h

theorem run_min3 (w : World) (p q : Nat) (u v : Int) (h : (if v < (if u < p then u else p) then v else (if u < p then u else (p : Int))) = q) : (Builtin.min_ #[3, 3, 3] 3 #[.int .i64 p, .int .i64 u, .int .i64 v]).run Tryd.prog w = .ok (.int .i64 q) w := by
  rw [← h]
  simp [Builtin.min_, Builtin.min2]

set_option maxRecDepth 100000 in
set_option maxHeartbeats 4000000 in
theorem far_any' (s : ByteArray) (F T : Int) (X : ByteArray) (w : World) (hs : s.size ≤ 140737488355328) (hx : X.size ≤ 140737488355328) (hn : NumVars w) :
    Calls Tryd.prog 13 #[.string s, .agg #[.int .i64 F, .int .i64 T, .string X]] w fun e w' => e = .returned (.bool true) ∧ Below w.heap.size w w' := by
  have hnew := World.alloc_heap_new w (.cells #[.int .i64 F, .int .i64 T, .string X] 56)
  have c0 := cell_of_row _ w.heap.size 0 _ 56 (0, 0) hnew
  have c1 := cell_of_row _ w.heap.size 1 _ 56 (0, 0) hnew
  have c2 := cell_of_row _ w.heap.size 2 _ 56 (0, 0) hnew
  have hb0 := (Below.refl w.heap.size w).alloc (Nat.le_refl _) (.cells #[.int .i64 F, .int .i64 T, .string X] 56)
  have HB0 := Lib.hid hb0
  have HN0 := Lib.hid (hn.keep hb0)
  have hsz := World.size_alloc w (.cells #[.int .i64 F, .int .i64 T, .string X] 56)
  have HSZ := Lib.hid hsz
  have HC0 := Lib.hid (fun (w' : World) (hb : Below (w.heap.size + 1) (w.alloc (.cells #[.int .i64 F, .int .i64 T, .string X] 56)) w') => (hb.cell (p := ⟨w.heap.size, 0, none⟩) (Nat.lt_succ_self _)).trans c0)
  have HC1 := Lib.hid (fun (w' : World) (hb : Below (w.heap.size + 1) (w.alloc (.cells #[.int .i64 F, .int .i64 T, .string X] 56)) w') => (hb.cell (p := ⟨w.heap.size, 1, none⟩) (Nat.lt_succ_self _)).trans c1)
  have HC2 := Lib.hid (fun (w' : World) (hb : Below (w.heap.size + 1) (w.alloc (.cells #[.int .i64 F, .int .i64 T, .string X] 56)) w') => (hb.cell (p := ⟨w.heap.size, 2, none⟩) (Nat.lt_succ_self _)).trans c2)
  clear hnew hb0 hn hsz
  by_cases h1 : 3000 < s.size
  · go_enter Tryd.func13, Tryd.ntmps13
    go_wp2_with (go_at_call 17; refine (awake_any _ HN0.out).mono ?_; rintro e w1 ⟨rfl, hb1⟩)
    go_ret
    exact ⟨rfl, HB0.out.trans (hb1.mono HB0.out.size)⟩
  · by_cases h2 : 3000 < X.size
    · go_enter Tryd.func13, Tryd.ntmps13
      go_wp2_with (go_at_call 17; refine (awake_any _ HN0.out).mono ?_; rintro e w1 ⟨rfl, hb1⟩)
      go_ret
      exact ⟨rfl, HB0.out.trans (hb1.mono HB0.out.size)⟩
    · have C43 := Lib.hid (fun w h => kept_any s ⟨F, T, X⟩ w hs hx h)
      by_cases he : (keptRes s ⟨F, T, X⟩).2.2 = 0
      · obtain ⟨t, hd, tl, e1, e2, e3, e4, e5, f1, f2, f3, p1, p2, p3, p4⟩ := far_ok he
        dsimp only at f1 f2 f3 p1 p2
        have C34 := Lib.hid (fun w v (h : SplIn w w.heap.size v [⟨F, T, X⟩]) => apply_any s v [⟨F, T, X⟩] w hs (by simp) (by intro y hy; simp at hy; subst hy; exact hx) h)
        rw [e5] at C43
        rw [e1, (bytes_mk t)] at C34
        have HSP := Lib.hid (fun w => spl_new' w ⟨F, T, X⟩)
        have HLT := Lib.hid (fun (y : Piece) (hy : y ∈ (lexTokens s).1) => pcOrd_in (lexTokens_ok e3).2.2.2.2 y hy)
        have C18 := Lib.hid (fun w (h : NumVars w) => tokens_any s w hs h)
        have C18b := Lib.hid (fun w (h : NumVars w) => tokens_any t w (by omega) h)
        have hl1 := lexTokens_len s
        have hl2 := lexTokens_len t
        rw [e3] at C18
        rw [e4] at C18b
        obtain ⟨n, rfl⟩ := Int.eq_ofNat_of_zero_le (show 0 ≤ T by omega)
        rw [Int.toNat_natCast] at p2
        have hle := lineEndP_le s n (by omega)
        have hge := lineEndP_ge s n
        have HIN := Lib.hid (fun j (h1 : n ≤ j) (h2 : j < lineEndP s n) => lineEndP_in s n j (by omega) h1 h2)
        have HLF := Lib.hid (lineEndP_lf s n)
        clear e1 e3 e4 e5 he
        generalize (lexTokens s).1 = a at C18 HLT hl1 p1 p2 p3
        generalize (lexTokens t).1 = b at C18b hl2 p2 p4
        generalize lineEndP s n = E at hle hge HIN HLF p2
        generalize (lexTokens s).2.1 = z1 at C18
        generalize (lexTokens t).2.1 = z2 at C18b
        have HP := Lib.hid (And.intro p1 p2)
        clear p1 p2
        go_enter Tryd.func13, Tryd.ntmps13
        go_wp2_with (first
          | (go_at_call 43; refine (C43.out _ HN0.out).mono ?_; rintro e w1 ⟨rfl, hb1⟩; have hbk : Below (w.heap.size + 1) _ w1 := hb1.mono (Nat.le_of_eq HSZ.out.symm); have HBK := Lib.hid hbk; have d0 := HC0.out _ hbk; have d1 := HC1.out _ hbk; have d2 := HC2.out _ hbk; have HB1 := Lib.hid (HB0.out.trans (hb1.mono HB0.out.size)); have HN1 := Lib.hid (HN0.out.keep hb1); clear hb1 hbk c0 c1 c2 C43)
          | (go_at_call 34; refine (C34.out _ _ (HSP.out _)).mono ?_; rintro e w2 ⟨rfl, hb2⟩; have hbl := (HB1.out.alloc HB1.out.size (.cells #[.int .i64 F, .int .i64 n, .string X] 56)); have HB2 := Lib.hid (hbl.trans (hb2.mono hbl.size)); have HN2 := Lib.hid ((HN1.out.alloc _).keep hb2); have hq1 := Nat.le_trans (Nat.le_of_eq HSZ.out.symm) HBK.out.size; have hbk1 := HBK.out.alloc hq1 (.cells #[.int .i64 F, .int .i64 n, .string X] 56); have HBK2 := Lib.hid (hbk1.trans (hb2.mono (Nat.le_trans (Nat.le_of_eq HSZ.out.symm) hbk1.size))); have HQ2 := Lib.hid (Nat.le_trans (Nat.le_of_eq HSZ.out.symm) HBK2.out.size); clear hbk1; clear hq1 hb2 d0 d1 d2 hbl C34)
          | (go_at_call 18; refine (C18.out _ HN2.out).mono ?_; rintro e w3 ⟨v3, rfl, hb3, ht3⟩; have HB3 := Lib.hid (HB2.out.trans (hb3.mono HB2.out.size)); have HN3 := Lib.hid (HN2.out.keep hb3); have HBK3 := Lib.hid (HBK2.out.trans (hb3.mono HQ2.out)); have HQ3 := Lib.hid (Nat.le_trans HQ2.out hb3.size); have HT3 := Lib.hid (tokIn_of_own ht3); obtain ⟨A1, c1, rfl, hc1⟩ := own_cap ht3; clear hb3 ht3 hc1 C18)
          | (go_at_call 18; refine (C18b.out _ HN3.out).mono ?_; rintro e w4 ⟨v4, rfl, hb4, ht4⟩; have HB4 := Lib.hid (HB3.out.trans (hb4.mono HB3.out.size)); have HN4 := Lib.hid (HN3.out.keep hb4); have HBK4 := Lib.hid (HBK3.out.trans (hb4.mono HQ3.out)); have HT4 := Lib.hid ((HT3.out.below hb4).more hb4.size); obtain ⟨A2, c2, rfl, hc2⟩ := own_cap ht4; have d0 := HC0.out _ HBK4.out; have d1 := HC1.out _ HBK4.out; have HQ4 := Lib.hid (Nat.lt_of_lt_of_le (Nat.lt_of_succ_le HQ3.out) hb4.size); clear hb4 ht4 hc2 C18b))
        go_loop [15] (fun i => ∃ k : Nat, n ≤ k ∧ k ≤ E ∧ i = .int .i64 k) (fun i => E - (intOf i).toNat)
        case atStart => exact ⟨n, by omega, by omega, rfl⟩
        case round =>
          obtain ⟨k, hk1, hk2, rfl⟩ := hrel
          by_cases hlt : k < s.size
          · have i1 := idxb s k hlt
            by_cases hke : k < E
            · have hlf := HIN.out k hk1 hke
              have q1 : (((s[k]!).toNat : Int) != 10) = true := by
                rw [lf_get s k hlt] at hlf
                rw [getBang s k hlt]
                simp only [beq_eq_false_iff_ne, ne_eq] at hlf
                simp only [bne_iff_ne, ne_eq]
                intro e
                apply hlf
                apply UInt8.toNat.inj
                show s[k].toNat = 10
                omega
              generalize (s[k]!).toNat = bt at i1 q1
              clear hlf
              go_wp2_with fail
              go_round
              case rel => exact ⟨k + 1, by omega, by omega, by go_num⟩
              case measure => simp [intOf]; omega
            · obtain rfl : k = E := by omega
              have hlf := HLF.out hlt
              have q1 : (((s[k]!).toNat : Int) != 10) = false := by
                rw [lf_get s k hlt, beq_iff_eq] at hlf
                rw [getBang s k hlt, hlf]
                rfl
              generalize (s[k]!).toNat = bt at i1 q1
              clear hlf
              go_wp2_with fail
              have hb40 := Below.refl w4.heap.size w4
              go_loopw [16, 17, 18] (fun nb nh i wr => ∃ (j m p : Nat), j ≤ a.length ∧ i = .int .i64 j ∧ nb = .int .i64 m ∧ nh = .int .i64 p ∧ m ≤ j ∧ p ≤ j ∧ Hid (m = beforeN F (a.take j)) ∧ Hid (p = behindN k (a.take j)) ∧ Hid (Below w4.heap.size w4 wr)) (fun _ _ i _ => a.length - (intOf i).toNat)
              case atStart => exact ⟨0, 0, 0, by omega, rfl, rfl, rfl, by omega, by omega, Lib.hid rfl, Lib.hid rfl, Lib.hid hb40⟩
              case round =>
                obtain ⟨j, m, p, hj, rfl, rfl, rfl, hm, hp, HM, HPP, HW⟩ := hrel
                by_cases hja : j < a.length
                · obtain ⟨y, hy⟩ : ∃ y, a[j]? = some y := ⟨_, List.getElem?_eq_getElem hja⟩
                  obtain ⟨A', c', e', hA⟩ := HT4.out.below HW.out
                  cases e'
                  obtain ⟨bb, off, rfl, hB, g1, g2, g3⟩ := hA j y hy
                  have hya := HLT.out y (List.mem_of_getElem? hy)
                  have HY := Lib.hid hy
                  have d0' := (HW.out.cell (p := ⟨w.heap.size, 0, none⟩) HQ4.out).trans d0
                  have wr1 : IntKind.i64.wrap ((y.at_ : Int) + y.text.size) = (y.at_ : Int) + y.text.size := by rw [IntKind.wrap_i64]; omega
                  clear hA hy g1 d0 d1
                  by_cases q1' : (y.at_ : Int) + y.text.size < F
                  · have t1 : decide ((y.at_ : Int) + y.text.size < F) = true := by simpa using q1'
                    have HB1' := Lib.hid (show beforeN F (a.take (j + 1)) = m + 1 by rw [before_step HY.out, if_pos q1', ← HM.out])
                    clear q1'
                    go_wp2_with fail
                    go_quiet (fail)
                    by_cases q2' : k < y.at_
                    · have HB2' := Lib.hid (show behindN k (a.take (j + 1)) = p + 1 by rw [behind_step HY.out, if_pos q2', ← HPP.out])
                      go_wp2_with fail
                      go_roundw
                      case rel => exact ⟨j + 1, m + 1, p + 1, by omega, by go_num, by go_num, by go_num, by omega, by omega, Lib.hid HB1'.out.symm, Lib.hid HB2'.out.symm, Lib.hid (below_drewN HW.out _)⟩
                      case measure => simp [intOf]; omega
                    · have HB2' := Lib.hid (show behindN k (a.take (j + 1)) = p by rw [behind_step HY.out, if_neg q2', ← HPP.out]; rfl)
                      go_wp2_with fail
                      go_roundw
                      case rel => exact ⟨j + 1, m + 1, p, by omega, by go_num, by go_num, rfl, by omega, by omega, Lib.hid HB1'.out.symm, Lib.hid HB2'.out.symm, Lib.hid (below_drewN HW.out _)⟩
                      case measure => simp [intOf]; omega
                  · have t1 : decide ((y.at_ : Int) + y.text.size < F) = false := by simpa using q1'
                    have HB1' := Lib.hid (show beforeN F (a.take (j + 1)) = m by rw [before_step HY.out, if_neg q1', ← HM.out]; rfl)
                    clear q1'
                    go_wp2_with fail
                    go_quiet (fail)
                    by_cases q2' : k < y.at_
                    · have HB2' := Lib.hid (show behindN k (a.take (j + 1)) = p + 1 by rw [behind_step HY.out, if_pos q2', ← HPP.out])
                      go_wp2_with fail
                      go_roundw
                      case rel => exact ⟨j + 1, m, p + 1, by omega, by go_num, rfl, by go_num, by omega, by omega, Lib.hid HB1'.out.symm, Lib.hid HB2'.out.symm, Lib.hid (below_drewN HW.out _)⟩
                      case measure => simp [intOf]; omega
                    · have HB2' := Lib.hid (show behindN k (a.take (j + 1)) = p by rw [behind_step HY.out, if_neg q2', ← HPP.out]; rfl)
                      go_wp2_with fail
                      go_roundw
                      case rel => exact ⟨j + 1, m, p, by omega, by go_num, rfl, rfl, by omega, by omega, Lib.hid HB1'.out.symm, Lib.hid HB2'.out.symm, Lib.hid (below_drewN HW.out _)⟩
                      case measure => simp [intOf]; omega
                · have hjl : j = a.length := by omega
                  subst hjl
                  have hM := HM.out
                  have hPP := HPP.out
                  rw [List.take_length] at hM hPP
                  have hP := HP.out
                  rw [← hM, ← hPP] at hP
                  obtain ⟨hP1, hP2⟩ := hP
                  have HW5 := Lib.hid (HB4.out.trans (HW.out.mono HB4.out.size))
                  have HN5 := Lib.hid (HN4.out.keep HW.out)
                  have x1 : IntKind.i64.wrap ((a.length : Int) - hd) = (a.length : Int) - hd := by rw [IntKind.wrap_i64]; omega
                  have x2 : IntKind.i64.wrap ((b.length : Int) - hd) = (b.length : Int) - hd := by rw [IntKind.wrap_i64]; omega
                  have x3 : IntKind.i64.wrap ((hd : Int) + tl) = (hd : Int) + tl := by rw [IntKind.wrap_i64]; omega
                  obtain ⟨q, hq⟩ : ∃ q, q = min p (min (a.length - hd) (b.length - hd)) := ⟨_, rfl⟩
                  rw [← hq] at hP2
                  have hmin := fun w => run_min3 w p q ((a.length : Int) - hd) ((b.length : Int) - hd) (by repeat' split; all_goals omega)
                  clear hM hPP HM HPP HP d0 d1 hq
                  go_wp2_with (go_at_call 17; refine (awake_any _ HN5.out).mono ?_; rintro e w6 ⟨rfl, hb6⟩)
                  go_ret
                  exact ⟨rfl, HW5.out.trans (hb6.mono HW5.out.size)⟩
          · obtain rfl : k = E := by omega
            go_wp2_with fail
            have hb40 := Below.refl w4.heap.size w4
            go_loopw [16, 17, 18] (fun nb nh i wr => ∃ (j m p : Nat), j ≤ a.length ∧ i = .int .i64 j ∧ nb = .int .i64 m ∧ nh = .int .i64 p ∧ m ≤ j ∧ p ≤ j ∧ Hid (m = beforeN F (a.take j)) ∧ Hid (p = behindN k (a.take j)) ∧ Hid (Below w4.heap.size w4 wr)) (fun _ _ i _ => a.length - (intOf i).toNat)
            case atStart => exact ⟨0, 0, 0, by omega, rfl, rfl, rfl, by omega, by omega, Lib.hid rfl, Lib.hid rfl, Lib.hid hb40⟩
            case round =>
              obtain ⟨j, m, p, hj, rfl, rfl, rfl, hm, hp, HM, HPP, HW⟩ := hrel
              by_cases hja : j < a.length
              · obtain ⟨y, hy⟩ : ∃ y, a[j]? = some y := ⟨_, List.getElem?_eq_getElem hja⟩
                obtain ⟨A', c', e', hA⟩ := HT4.out.below HW.out
                cases e'
                obtain ⟨bb, off, rfl, hB, g1, g2, g3⟩ := hA j y hy
                have hya := HLT.out y (List.mem_of_getElem? hy)
                have HY := Lib.hid hy
                have d0' := (HW.out.cell (p := ⟨w.heap.size, 0, none⟩) HQ4.out).trans d0
                have wr1 : IntKind.i64.wrap ((y.at_ : Int) + y.text.size) = (y.at_ : Int) + y.text.size := by rw [IntKind.wrap_i64]; omega
                clear hA hy g1 d0 d1
                by_cases q1' : (y.at_ : Int) + y.text.size < F
                · have t1 : decide ((y.at_ : Int) + y.text.size < F) = true := by simpa using q1'
                  have HB1' := Lib.hid (show beforeN F (a.take (j + 1)) = m + 1 by rw [before_step HY.out, if_pos q1', ← HM.out])
                  clear q1'
                  go_wp2_with fail
                  go_quiet (fail)
                  by_cases q2' : k < y.at_
                  · exfalso
                    omega
                  · have HB2' := Lib.hid (show behindN k (a.take (j + 1)) = p by rw [behind_step HY.out, if_neg q2', ← HPP.out]; rfl)
                    go_wp2_with fail
                    go_roundw
                    case rel => exact ⟨j + 1, m + 1, p, by omega, by go_num, by go_num, rfl, by omega, by omega, Lib.hid HB1'.out.symm, Lib.hid HB2'.out.symm, Lib.hid (below_drewN HW.out _)⟩
                    case measure => simp [intOf]; omega
                · have t1 : decide ((y.at_ : Int) + y.text.size < F) = false := by simpa using q1'
                  have HB1' := Lib.hid (show beforeN F (a.take (j + 1)) = m by rw [before_step HY.out, if_neg q1', ← HM.out]; rfl)
                  clear q1'
                  go_wp2_with fail
                  go_quiet (fail)
                  by_cases q2' : k < y.at_
                  · exfalso
                    omega
                  · have HB2' := Lib.hid (show behindN k (a.take (j + 1)) = p by rw [behind_step HY.out, if_neg q2', ← HPP.out]; rfl)
                    go_wp2_with fail
                    go_roundw
                    case rel => exact ⟨j + 1, m, p, by omega, by go_num, rfl, rfl, by omega, by omega, Lib.hid HB1'.out.symm, Lib.hid HB2'.out.symm, Lib.hid (below_drewN HW.out _)⟩
                    case measure => simp [intOf]; omega
              · have hjl : j = a.length := by omega
                subst hjl
                have hM := HM.out
                have hPP := HPP.out
                rw [List.take_length] at hM hPP
                have hP := HP.out
                rw [← hM, ← hPP] at hP
                obtain ⟨hP1, hP2⟩ := hP
                have HW5 := Lib.hid (HB4.out.trans (HW.out.mono HB4.out.size))
                have HN5 := Lib.hid (HN4.out.keep HW.out)
                have x1 : IntKind.i64.wrap ((a.length : Int) - hd) = (a.length : Int) - hd := by rw [IntKind.wrap_i64]; omega
                have x2 : IntKind.i64.wrap ((b.length : Int) - hd) = (b.length : Int) - hd := by rw [IntKind.wrap_i64]; omega
                have x3 : IntKind.i64.wrap ((hd : Int) + tl) = (hd : Int) + tl := by rw [IntKind.wrap_i64]; omega
                obtain ⟨q, hq⟩ : ∃ q, q = min p (min (a.length - hd) (b.length - hd)) := ⟨_, rfl⟩
                rw [← hq] at hP2
                have hmin := fun w => run_min3 w p q ((a.length : Int) - hd) ((b.length : Int) - hd) (by repeat' split; all_goals omega)
                clear hM hPP HM HPP HP d0 d1 hq
                go_wp2_with (go_at_call 17; refine (awake_any _ HN5.out).mono ?_; rintro e w6 ⟨rfl, hb6⟩)
                go_ret
                exact ⟨rfl, HW5.out.trans (hb6.mono HW5.out.size)⟩
      · have HE := Lib.hid he
        have heb : ((keptRes s ⟨F, T, X⟩).2.2 != 0) = true := by simpa using he
        generalize keptRes s ⟨F, T, X⟩ = r at C43 heb
        obtain ⟨r1, r2, r3⟩ := r
        clear he HE
        go_enter Tryd.func13, Tryd.ntmps13
        go_wp2_with (first
          | (go_at_call 43; refine (C43.out _ HN0.out).mono ?_; rintro e w1 ⟨rfl, hb1⟩; have HB1 := Lib.hid (HB0.out.trans (hb1.mono HB0.out.size)); have HN1 := Lib.hid (HN0.out.keep hb1); clear hb1 C43)
          | (go_at_call 17; refine (awake_any _ HN1.out).mono ?_; rintro e w2 ⟨rfl, hb2⟩))
        go_ret
        exact ⟨rfl, HB1.out.trans (hb2.mono HB1.out.size)⟩

theorem far_any (s : ByteArray) (x : Spl) (w : World) (hs : s.size ≤ 140737488355328) (hx : x.text.size ≤ 140737488355328) (hn : NumVars w) :
    Calls Tryd.prog 13 #[.string s, .agg #[.int .i64 x.from_, .int .i64 x.to_, .string x.text]] w fun e w' => e = .returned (.bool true) ∧ Below w.heap.size w w' :=
  far_any' s x.from_ x.to_ x.text w hs hx hn
end Go.Proofs.YtjadjmkbjolklaaDoor
