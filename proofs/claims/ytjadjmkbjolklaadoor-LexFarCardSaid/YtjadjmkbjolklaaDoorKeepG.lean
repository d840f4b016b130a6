/- The reference's Kept where no error ends it: its two loops. -/
import Derived.Test.YtjadjmkbjolklaaDoorKept
import Derived.BigRegion
namespace Go.Proofs.YtjadjmkbjolklaaDoor
open Go.RowKit

set_option maxRecDepth 100000 in
set_option maxHeartbeats 2000000 in
theorem refKept_full (s : ByteArray) (x : Spl) (w : World) (hs : s.size ≤ 140737488355328) (hx : x.text.size ≤ 140737488355328)
    (he : (applyRes s [x]).2 = 0) (h1 : (lexTokens s).2.2 = 0) (h2 : (lexTokens ⟨(applyRes s [x]).1.toArray⟩).2.2 = 0) :
    Calls Tryd.prog 44 #[.string s, .agg #[.int .i64 x.from_, .int .i64 x.to_, .string x.text]] w fun e w' => e = .returned (.tuple #[.int .i64 (keptRes s x).1, .int .i64 (keptRes s x).2.1, .int .i64 (keptRes s x).2.2]) ∧ Below w.heap.size w w' := by
  have hnew := World.alloc_heap_new w (.cells #[.int .i64 x.from_, .int .i64 x.to_, .string x.text] 56)
  have c0 := cell_of_row _ w.heap.size 0 _ 56 (0, 0) hnew
  have c1 := cell_of_row _ w.heap.size 1 _ 56 (0, 0) hnew
  have c2 := cell_of_row _ w.heap.size 2 _ 56 (0, 0) hnew
  have hb0 := (Below.refl w.heap.size w).alloc (Nat.le_refl _) (.cells #[.int .i64 x.from_, .int .i64 x.to_, .string x.text] 56)
  have hk0 := (Below.refl (w.heap.size + 1) (w.alloc (.cells #[.int .i64 x.from_, .int .i64 x.to_, .string x.text] 56))).alloc (by rw [World.size_alloc]; exact Nat.le_refl _) (.cells #[.int .i64 x.from_, .int .i64 x.to_, .string x.text] 56)
  have HK0 := Lib.hid hk0
  have hsp := spl_new' (w.alloc (.cells #[.int .i64 x.from_, .int .i64 x.to_, .string x.text] 56)) x
  rw [World.size_alloc w] at hsp
  have hb1 := hb0.alloc hb0.size (.cells #[.int .i64 x.from_, .int .i64 x.to_, .string x.text] 56)
  have HB1 := Lib.hid hb1
  have HS := Lib.hid hsp
  have HC1 := Lib.hid (fun (w' : World) (hb : Below (w.heap.size + 1) (w.alloc (.cells #[.int .i64 x.from_, .int .i64 x.to_, .string x.text] 56)) w') => (hb.cell (p := ⟨w.heap.size, 0, none⟩) (Nat.lt_succ_self _)).trans c0)
  have HC2 := Lib.hid (fun (w' : World) (hb : Below (w.heap.size + 1) (w.alloc (.cells #[.int .i64 x.from_, .int .i64 x.to_, .string x.text] 56)) w') => (hb.cell (p := ⟨w.heap.size, 1, none⟩) (Nat.lt_succ_self _)).trans c1)
  have HC3 := Lib.hid (fun (w' : World) (hb : Below (w.heap.size + 1) (w.alloc (.cells #[.int .i64 x.from_, .int .i64 x.to_, .string x.text] 56)) w') => (hb.cell (p := ⟨w.heap.size, 2, none⟩) (Nat.lt_succ_self _)).trans c2)
  have HSZ := Lib.hid (show w.heap.size + 1 ≤ ((w.alloc (.cells #[.int .i64 x.from_, .int .i64 x.to_, .string x.text] 56)).alloc (.cells #[.int .i64 x.from_, .int .i64 x.to_, .string x.text] 56)).heap.size by rw [World.size_alloc, World.size_alloc]; omega)
  have C70 := Lib.hid (fun w v (h : SplIn w w.heap.size v [x]) => refCheck_any s v [x] w hs (by simp) (by intro y hy; simp at hy; subst hy; exact hx) h)
  rw [← applyRes_code] at C70
  clear hnew hb0 hk0 hb1 hsp
  · have hsz := apply_mk_size he
    have hpl : (planAnyRes s [x]).2 = 0 := by rw [← applyRes_code]; exact he
    have C71 := Lib.hid (fun w v (h : SplIn w w.heap.size v [x]) => refSpliced_any s v [x] w hs (by simp) (splErr_ok (planAny_ok hpl).2.1).2.1 (Nat.le_trans (aft_len hpl) (by omega)) h)
    rw [← applyRes_aft hpl] at C71
    have HAT := Lib.hid (spl_new' · x)
    have hr0 : keptRes s x = keptRes s x := rfl
    conv at hr0 => rhs; unfold keptRes
    rw [if_neg (by rw [he]; simp)] at hr0
    rw [he] at C70
    have hle : ((applyRes s [x]).1.length : Int) = (⟨(applyRes s [x]).1.toArray⟩ : ByteArray).size := by rw [size_mk]
    rw [hle] at hr0
    generalize (⟨(applyRes s [x]).1.toArray⟩ : ByteArray) = t at C71 hsz hr0 h2
    clear he hle hpl
    have C18 := Lib.hid (fun w => refTokens_any s w hs)
    have C18b := Lib.hid (fun w => refTokens_any t w (by omega))
    rw [if_neg (by rw [h1]; simp), if_neg (by rw [h2]; simp)] at hr0
    have HA1 := Lib.hid (fun (y : Piece) (hy : y ∈ (lexTokens s).1) => lexTokens_at s h1 y hy)
    have hl1 := lexTokens_len s
    have hl2 := lexTokens_len t
    rw [h1] at C18
    rw [h2] at C18b
    have HR := Lib.hid hr0
    clear hr0 h1 h2
    generalize (lexTokens s).1 = l at HR C18 HA1 hl1
    generalize (lexTokens t).1 = m at HR C18b hl2
    have HS0 : Hid (headG stayB l m = 0 + headG stayB (l.drop 0) (m.drop 0)) := Lib.hid (by simp)
    go_enter Tryd.func44, Tryd.ntmps44
    go_wp2_with (first
      | (go_at_call 70; refine (C70.out _ _ HS.out).mono ?_; rintro e w1 ⟨rfl, hb1⟩; have HB2 := Lib.hid (HB1.out.trans (hb1.mono HB1.out.size)); have hbk := HK0.out.trans (hb1.mono HSZ.out); have d0 := HC1.out _ hbk; have d1 := HC2.out _ hbk; have d2 := HC3.out _ hbk; clear hb1 C70 c0 c1 c2 hbk)
      | (go_at_call 71; refine (C71.out _ _ (HAT.out w1)).mono ?_; rintro e w2 ⟨rfl, hb2⟩; have HB3 := Lib.hid ((HB2.out.alloc HB2.out.size _).trans (hb2.mono (HB2.out.alloc HB2.out.size _).size)); clear hb2 C71 HB2 d0 d1 d2)
      | (go_at_call 19; refine (C18.out _).mono ?_; rintro e w3 ⟨v3, rfl, hb3, ht3⟩; have HB4 := Lib.hid (HB3.out.trans (hb3.mono HB3.out.size)); have HT2 := Lib.hid (tokIn_of_own ht3); obtain ⟨A1, cc1, rfl, _⟩ := own_cap ht3; clear hb3 ht3 HB3 C18)
      | (go_at_call 19; refine (C18b.out _).mono ?_; rintro e w4 ⟨v4, rfl, hb4, ht4⟩; have HB5 := Lib.hid (HB4.out.trans (hb4.mono HB4.out.size)); have HT2b := Lib.hid ((HT2.out.below hb4).more hb4.size); have HT3 := Lib.hid (tokIn_of_own ht4); obtain ⟨A2, cc2, rfl, _⟩ := own_cap ht4; clear hb4 ht4 HB4 HT2 C18b))
    obtain ⟨_, _, e1, HAA⟩ := HT2b.out
    injection e1 with e2 e3 e4
    subst e2 e4
    obtain ⟨_, _, e1', HAA'⟩ := HT3.out
    injection e1' with e2' e3' e4'
    subst e2' e4'
    have HA := Lib.hid HAA
    have HA' := Lib.hid HAA'
    clear e3 e3' HAA HAA' HAT HSZ HC1 HC2 HC3 HK0 HB1 HS
    go_loopw [14] (fun i wr => ∃ (k : Nat), k ≤ l.length ∧ k ≤ m.length ∧ i = .int .i64 k ∧ Hid (headG stayB l m = k + headG stayB (l.drop k) (m.drop k)) ∧ Hid (Below w4.heap.size w4 wr)) (fun i _ => l.length - (intOf i).toNat)
    case atStart => exact ⟨0, by omega, by omega, rfl, HS0, Lib.hid (Below.refl _ _)⟩
    case round =>
      obtain ⟨k, hk, hk', rfl, HK, HB⟩ := hrel
      clear HS0
      by_cases hlt : k < l.length ∧ k < m.length
      case' pos =>
        obtain ⟨x', hx'⟩ : ∃ x, l[k]? = some x := ⟨_, List.getElem?_eq_getElem hlt.1⟩
        obtain ⟨y', hy'⟩ : ∃ y, m[k]? = some y := ⟨_, List.getElem?_eq_getElem hlt.2⟩
        obtain ⟨b, off, rfl, hB, g1, g2, g3⟩ := HA.out k x' hx'
        obtain ⟨b', off', rfl, hB', g1', g2', g3'⟩ := HA'.out k y' hy'
        have HX := Lib.hid hx'
        have HY := Lib.hid hy'
        have d1 := (HB.out.cell (p := ⟨b, _, none⟩) hB).trans g1
        have d2 := (HB.out.cell (p := ⟨b, _, none⟩) hB).trans g2
        have d3 := (HB.out.cell (p := ⟨b, _, none⟩) hB).trans g3
        have d1' := (HB.out.cell (p := ⟨b', _, none⟩) hB').trans g1'
        have d2' := (HB.out.cell (p := ⟨b', _, none⟩) hB').trans g2'
        have d3' := (HB.out.cell (p := ⟨b', _, none⟩) hB').trans g3'
        obtain ⟨hlt1, hlt2⟩ := hlt
        have hq := fun w => eql63 w x'.kind x'.at_ y'.kind y'.at_ x'.text y'.text
        have hst0 : stayB x' y' = decide ((x'.kind, x'.text, (x'.at_ : Int)) = (y'.kind, y'.text, (y'.at_ : Int))) := rfl
        rw [← hst0] at hq
        clear g1 g2 g3 g1' g2' g3' hx' hy' hst0
        by_cases hst : stayB x' y' = true
        case pos =>
          have HXY := Lib.hid hst
          rw [hst] at hq
          clear hst
          go_wp2_with fail
          go_quiet (fail)
          go_wp2
          refine ⟨⟨k + 1, by omega, by omega, by go_num, Lib.hid ?_, Lib.hid (below_drewN HB.out _)⟩, by simp [intOf]; omega⟩
          rw [HK.out, headG_step stayB l m k x' y' HX.out HY.out, if_pos HXY.out]
          omega
        case' neg =>
          have hst' : stayB x' y' = false := by simpa using hst
          have hf : headG stayB l m = k := by rw [HK.out, headG_step stayB l m k x' y' HX.out HY.out, if_neg hst]; rfl
          have HF := Lib.hid hf
          rw [hst'] at hq
          clear hst hst' hf
          go_wp2_with fail
          go_quiet (fail)
          clear hq d1 d2 d3 d1' d2' d3' hB hB' HX HY hlt1 hlt2
      case' neg =>
        have hf : headG stayB l m = k := by rw [HK.out, headG_end stayB l m k (by omega)]; rfl
        have HF := Lib.hid hf
        clear hf
        by_cases hlt1 : k < l.length
        case' pos =>
          have hlt2 : ¬ k < m.length := fun h => hlt ⟨hlt1, h⟩
          clear hlt
          go_wp2_with fail
          go_quiet (fail)
          clear hlt1 hlt2
        case' neg =>
          clear hlt
          go_wp2_with fail
          go_quiet (fail)
          clear hlt1
      all_goals have HBX := Lib.hid (below_drewN HB.out nq)
      all_goals generalize wr.drewN nq = wq at HBX ⊢
      all_goals obtain ⟨g, hg⟩ : ∃ g, g = (t.size : Int) - s.size := ⟨_, rfl⟩
      all_goals have HG := Lib.hid hg
      all_goals have HS2 : Hid (headG (shiftB g) (l.drop k).reverse (m.drop k).reverse = 0 + headG (shiftB g) ((l.drop k).reverse.drop 0) ((m.drop k).reverse.drop 0)) := Lib.hid (by simp)
      all_goals have hwg : IntKind.i64.wrap ((t.size : Int) - s.size) = g := by rw [IntKind.wrap_i64]; omega
      all_goals have hwl : IntKind.i64.wrap ((l.length : Int) - k) = ((l.length - k : Nat) : Int) := by rw [IntKind.wrap_i64]; omega
      all_goals have hwm : IntKind.i64.wrap ((m.length : Int) - k) = ((m.length - k : Nat) : Int) := by rw [IntKind.wrap_i64]; omega
      all_goals clear hg HB HK
      all_goals go_wp2_with fail
      all_goals (
        go_loopw [15] (fun i wr => ∃ (j : Nat), j ≤ l.length - k ∧ j ≤ m.length - k ∧ i = .int .i64 j ∧ Hid (headG (shiftB g) (l.drop k).reverse (m.drop k).reverse = j + headG (shiftB g) ((l.drop k).reverse.drop j) ((m.drop k).reverse.drop j)) ∧ Hid (Below w4.heap.size w4 wr)) (fun i _ => l.length - (intOf i).toNat)
        case atStart => exact ⟨0, by omega, by omega, rfl, HS2, HBX⟩
        case round =>
          obtain ⟨j, hj, hj', rfl, HJ, HBJ⟩ := hrel
          clear HS2 HBX
          by_cases hin : j < l.length - k ∧ j < m.length - k
          case neg =>
            have hT : headG (shiftB g) (l.drop k).reverse (m.drop k).reverse = j := by rw [HJ.out, headG_end (shiftB g) _ _ j (by simp; omega)]; rfl
            have HT' := Lib.hid hT
            clear hT
            by_cases hj1 : j < l.length - k
            all_goals go_wp2
            all_goals go_ret3
            all_goals rw [HR.out, HF.out, ← HG.out, HT'.out]
            all_goals exact ⟨rfl, HB5.out.trans (HBJ.out.mono HB5.out.size)⟩
          case pos =>
            obtain ⟨hi1, hi2⟩ := hin
            obtain ⟨x2, hx2⟩ : ∃ x, l[l.length - 1 - j]? = some x := ⟨_, List.getElem?_eq_getElem (by omega)⟩
            obtain ⟨y2, hy2⟩ : ∃ y, m[m.length - 1 - j]? = some y := ⟨_, List.getElem?_eq_getElem (by omega)⟩
            obtain ⟨e, oe, hAe, hE, g1, g2, g3⟩ := HA.out _ x2 hx2
            obtain ⟨e', oe', hAe', hE', g1', g2', g3'⟩ := HA'.out _ y2 hy2
            try subst hAe
            try subst hAe'
            have HX2 : Hid ((l.drop k).reverse[j]? = some x2) := Lib.hid (by rw [List.getElem?_reverse (by simp; omega), List.getElem?_drop, ← hx2]; congr 1; simp; omega)
            have HY2 : Hid ((m.drop k).reverse[j]? = some y2) := Lib.hid (by rw [List.getElem?_reverse (by simp; omega), List.getElem?_drop, ← hy2]; congr 1; simp; omega)
            have hxa := HA1.out x2 (List.mem_of_getElem? hx2)
            have w1 : IntKind.i64.wrap ((l.length : Int) - 1) = (l.length : Int) - 1 := by rw [IntKind.wrap_i64]; omega
            have w1' : IntKind.i64.wrap ((m.length : Int) - 1) = (m.length : Int) - 1 := by rw [IntKind.wrap_i64]; omega
            obtain ⟨n, hn⟩ : ∃ n, n = l.length - 1 - j := ⟨_, rfl⟩
            obtain ⟨n', hn'⟩ : ∃ n, n = m.length - 1 - j := ⟨_, rfl⟩
            rw [← hn] at g1 g2 g3
            rw [← hn'] at g1' g2' g3'
            have w2 : IntKind.i64.wrap ((l.length : Int) - 1 - j) = n := by rw [IntKind.wrap_i64]; omega
            have w2' : IntKind.i64.wrap ((m.length : Int) - 1 - j) = n' := by rw [IntKind.wrap_i64]; omega
            have hn1 : n < l.length := by omega
            have hn1' : n' < m.length := by omega
            clear hn hn'
            have d1 := (HBJ.out.cell (p := ⟨e, _, none⟩) hE).trans g1
            have d2 := (HBJ.out.cell (p := ⟨e, _, none⟩) hE).trans g2
            have d3 := (HBJ.out.cell (p := ⟨e, _, none⟩) hE).trans g3
            have d1' := (HBJ.out.cell (p := ⟨e', _, none⟩) hE').trans g1'
            have d2' := (HBJ.out.cell (p := ⟨e', _, none⟩) hE').trans g2'
            have d3' := (HBJ.out.cell (p := ⟨e', _, none⟩) hE').trans g3'
            have hb0_0 := HBJ.out.alloc HBJ.out.size (.cells #[.int .u8 0, .string { data := #[] }, .int .i64 0] 63)
            have f0_0 := (hb0_0.cell (p := ⟨e, _, none⟩) hE).trans g1
            have f0_1 := (hb0_0.cell (p := ⟨e, _, none⟩) hE).trans g2
            have f0_2 := (hb0_0.cell (p := ⟨e, _, none⟩) hE).trans g3
            have f0_3 := (hb0_0.cell (p := ⟨e', _, none⟩) hE').trans g1'
            have f0_4 := (hb0_0.cell (p := ⟨e', _, none⟩) hE').trans g2'
            have f0_5 := (hb0_0.cell (p := ⟨e', _, none⟩) hE').trans g3'
            have hb1_0 := HBJ.out.alloc HBJ.out.size (.cells #[.int .u8 x2.kind, .string x2.text, .int .i64 x2.at_] 63)
            have f1_0 := (hb1_0.cell (p := ⟨e, _, none⟩) hE).trans g1
            have f1_1 := (hb1_0.cell (p := ⟨e, _, none⟩) hE).trans g2
            have f1_2 := (hb1_0.cell (p := ⟨e, _, none⟩) hE).trans g3
            have f1_3 := (hb1_0.cell (p := ⟨e', _, none⟩) hE').trans g1'
            have f1_4 := (hb1_0.cell (p := ⟨e', _, none⟩) hE').trans g2'
            have f1_5 := (hb1_0.cell (p := ⟨e', _, none⟩) hE').trans g3'
            have hb2_0 := HBJ.out.alloc HBJ.out.size (.cells #[.int .u8 y2.kind, .string y2.text, .int .i64 y2.at_] 63)
            have f2_0 := (hb2_0.cell (p := ⟨e, _, none⟩) hE).trans g1
            have f2_1 := (hb2_0.cell (p := ⟨e, _, none⟩) hE).trans g2
            have f2_2 := (hb2_0.cell (p := ⟨e, _, none⟩) hE).trans g3
            have f2_3 := (hb2_0.cell (p := ⟨e', _, none⟩) hE').trans g1'
            have f2_4 := (hb2_0.cell (p := ⟨e', _, none⟩) hE').trans g2'
            have f2_5 := (hb2_0.cell (p := ⟨e', _, none⟩) hE').trans g3'
            have hb3_0 := HBJ.out.alloc HBJ.out.size (.cells #[.int .u8 0, .string { data := #[] }, .int .i64 0] 63)
            have hb3_1 := hb3_0.alloc hb3_0.size (.cells #[.int .u8 0, .string { data := #[] }, .int .i64 0] 63)
            have f3_0 := (hb3_1.cell (p := ⟨e, _, none⟩) hE).trans g1
            have f3_1 := (hb3_1.cell (p := ⟨e, _, none⟩) hE).trans g2
            have f3_2 := (hb3_1.cell (p := ⟨e, _, none⟩) hE).trans g3
            have f3_3 := (hb3_1.cell (p := ⟨e', _, none⟩) hE').trans g1'
            have f3_4 := (hb3_1.cell (p := ⟨e', _, none⟩) hE').trans g2'
            have f3_5 := (hb3_1.cell (p := ⟨e', _, none⟩) hE').trans g3'
            have hb4_0 := HBJ.out.alloc HBJ.out.size (.cells #[.int .u8 0, .string { data := #[] }, .int .i64 0] 63)
            have hb4_1 := hb4_0.alloc hb4_0.size (.cells #[.int .u8 x2.kind, .string x2.text, .int .i64 x2.at_] 63)
            have f4_0 := (hb4_1.cell (p := ⟨e, _, none⟩) hE).trans g1
            have f4_1 := (hb4_1.cell (p := ⟨e, _, none⟩) hE).trans g2
            have f4_2 := (hb4_1.cell (p := ⟨e, _, none⟩) hE).trans g3
            have f4_3 := (hb4_1.cell (p := ⟨e', _, none⟩) hE').trans g1'
            have f4_4 := (hb4_1.cell (p := ⟨e', _, none⟩) hE').trans g2'
            have f4_5 := (hb4_1.cell (p := ⟨e', _, none⟩) hE').trans g3'
            have hb5_0 := HBJ.out.alloc HBJ.out.size (.cells #[.int .u8 x2.kind, .string x2.text, .int .i64 x2.at_] 63)
            have hb5_1 := hb5_0.alloc hb5_0.size (.cells #[.int .u8 0, .string { data := #[] }, .int .i64 0] 63)
            have f5_0 := (hb5_1.cell (p := ⟨e, _, none⟩) hE).trans g1
            have f5_1 := (hb5_1.cell (p := ⟨e, _, none⟩) hE).trans g2
            have f5_2 := (hb5_1.cell (p := ⟨e, _, none⟩) hE).trans g3
            have f5_3 := (hb5_1.cell (p := ⟨e', _, none⟩) hE').trans g1'
            have f5_4 := (hb5_1.cell (p := ⟨e', _, none⟩) hE').trans g2'
            have f5_5 := (hb5_1.cell (p := ⟨e', _, none⟩) hE').trans g3'
            have hb6_0 := HBJ.out.alloc HBJ.out.size (.cells #[.int .u8 0, .string { data := #[] }, .int .i64 0] 63)
            have hb6_1 := hb6_0.alloc hb6_0.size (.cells #[.int .u8 y2.kind, .string y2.text, .int .i64 y2.at_] 63)
            have f6_0 := (hb6_1.cell (p := ⟨e, _, none⟩) hE).trans g1
            have f6_1 := (hb6_1.cell (p := ⟨e, _, none⟩) hE).trans g2
            have f6_2 := (hb6_1.cell (p := ⟨e, _, none⟩) hE).trans g3
            have f6_3 := (hb6_1.cell (p := ⟨e', _, none⟩) hE').trans g1'
            have f6_4 := (hb6_1.cell (p := ⟨e', _, none⟩) hE').trans g2'
            have f6_5 := (hb6_1.cell (p := ⟨e', _, none⟩) hE').trans g3'
            have hb7_0 := HBJ.out.alloc HBJ.out.size (.cells #[.int .u8 y2.kind, .string y2.text, .int .i64 y2.at_] 63)
            have hb7_1 := hb7_0.alloc hb7_0.size (.cells #[.int .u8 0, .string { data := #[] }, .int .i64 0] 63)
            have f7_0 := (hb7_1.cell (p := ⟨e, _, none⟩) hE).trans g1
            have f7_1 := (hb7_1.cell (p := ⟨e, _, none⟩) hE).trans g2
            have f7_2 := (hb7_1.cell (p := ⟨e, _, none⟩) hE).trans g3
            have f7_3 := (hb7_1.cell (p := ⟨e', _, none⟩) hE').trans g1'
            have f7_4 := (hb7_1.cell (p := ⟨e', _, none⟩) hE').trans g2'
            have f7_5 := (hb7_1.cell (p := ⟨e', _, none⟩) hE').trans g3'
            clear hb0_0 hb1_0 hb2_0 hb3_0 hb3_1 hb4_0 hb4_1 hb5_0 hb5_1 hb6_0 hb6_1 hb7_0 hb7_1
            clear g1 g2 g3 g1' g2' g3' hx2 hy2
            go_wp2_with fail
            go_region
            all_goals have h1 := (Box3.new wr x2.kind x2.text x2.at_).below ((Below.refl _ _).alloc (Nat.le_refl _) (.cells #[.int .u8 y2.kind, .string y2.text, .int .i64 y2.at_] 63)) (by simp)
            all_goals have h2 := Box3.new (wr.alloc (.cells #[.int .u8 x2.kind, .string x2.text, .int .i64 x2.at_] 63)) y2.kind y2.text y2.at_
            all_goals rw [World.size_alloc] at h2
            all_goals have h1s := heap_setCell_same _ wr.heap.size 2 _ 63 (.int .i64 (x2.at_ + g)) h1
            all_goals have h1t : Box3 _ wr.heap.size x2.kind x2.text (x2.at_ + g) := h1s
            all_goals have h2t : Box3 _ (wr.heap.size + 1) y2.kind y2.text y2.at_ := (Below.heap_setCell _ ⟨wr.heap.size, 2, none⟩ (.int .i64 (x2.at_ + g)) (wr.heap.size + 1) (by simp)).trans h2
            all_goals have k2 := (Box3.new wr y2.kind y2.text y2.at_).below ((Below.refl _ _).alloc (Nat.le_refl _) (.cells #[.int .u8 x2.kind, .string x2.text, .int .i64 x2.at_] 63)) (by simp)
            all_goals have k1 := Box3.new (wr.alloc (.cells #[.int .u8 y2.kind, .string y2.text, .int .i64 y2.at_] 63)) x2.kind x2.text x2.at_
            all_goals rw [World.size_alloc] at k1
            all_goals have k1t : Box3 _ (wr.heap.size + 1) x2.kind x2.text (x2.at_ + g) := heap_setCell_same _ (wr.heap.size + 1) 2 _ 63 (.int .i64 (x2.at_ + g)) k1
            all_goals have k2t : Box3 _ wr.heap.size y2.kind y2.text y2.at_ := (Below.heap_setCell _ ⟨wr.heap.size + 1, 2, none⟩ (.int .i64 (x2.at_ + g)) wr.heap.size (by simp)).trans k2
            all_goals have a2 := h1.c2
            all_goals have b2 := h1.f0 2
            all_goals have a2' := k1.c2
            all_goals have b2' := k1.f0 2
            all_goals have p0 := h1t.c0
            all_goals have p1 := h1t.c1
            all_goals have p2 := h1t.c2
            all_goals have p3 := h2t.c0
            all_goals have p4 := h2t.c1
            all_goals have p5 := h2t.c2
            all_goals have q0 := k1t.c0
            all_goals have q1 := k1t.c1
            all_goals have q2 := k1t.c2
            all_goals have q3 := k2t.c0
            all_goals have q4 := k2t.c1
            all_goals have q5 := k2t.c2
            all_goals have hgu := guard63
            all_goals have hw3 : IntKind.i64.wrap ((x2.at_ : Int) + g) = (x2.at_ : Int) + g := by have := HG.out; rw [IntKind.wrap_i64]; omega
            all_goals have hne2 := fun w => neq63 w x2.kind (x2.at_ + g) y2.kind y2.at_ x2.text y2.text
            all_goals clear h1 h2 h1s h1t h2t k1 k2 k1t k2t
            all_goals by_cases hs2 : shiftB g x2 y2 = true
            all_goals have HS3 := Lib.hid hs2
            all_goals simp only [shiftB, decide_eq_true_eq] at hs2
            all_goals simp only [hs2, decide_true, decide_false] at hne2
            all_goals clear hs2
            all_goals go_wp2
            all_goals first
              | (refine ⟨⟨j + 1, by omega, by omega, by go_num, Lib.hid ?_, Lib.hid ?_⟩, by simp [intOf]; omega⟩
                 · rw [HJ.out, headG_step (shiftB g) _ _ j x2 y2 HX2.out HY2.out, if_pos HS3.out]; omega
                 · first | exact ((HBJ.out.alloc HBJ.out.size _).alloc (HBJ.out.alloc HBJ.out.size _).size _).drew | exact (((HBJ.out.alloc HBJ.out.size _).alloc (HBJ.out.alloc HBJ.out.size _).size _).drew).setCell (by simp; have := HBJ.out.size; omega) _)
              | (go_ret3
                 rw [HR.out, HF.out, ← HG.out, HJ.out, headG_step (shiftB g) _ _ j x2 y2 HX2.out HY2.out, if_neg HS3.out]
                 exact ⟨rfl, HB5.out.trans ((((HBJ.out.alloc HBJ.out.size _).alloc (HBJ.out.alloc HBJ.out.size _).size _).drew).mono HB5.out.size)⟩))
end Go.Proofs.YtjadjmkbjolklaaDoor
