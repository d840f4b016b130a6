/- What stays: lex.Kept, what LexKeeps answers given the reference, and the reference where an error ends it. -/
import Derived.Test.YtjadjmkbjolklaaGreatDoorKeep
import Derived.Test.YtjadjmkbjolklaaGreatDoorUndn
import Derived.OwnWalk
namespace Go.Proofs.YtjadjmkbjolklaaGreatDoor
open Go.RowKit

theorem apply_mk_size {s : ByteArray} {l : List Spl} (he : (applyRes s l).2 = 0) : (⟨(applyRes s l).1.toArray⟩ : ByteArray).size ≤ 2500 := by
  obtain ⟨e1, e2, e3, e4, e5⟩ := apply_beh he
  have hlen := aft_len e1
  have hal : (applyRes s l).1 = aftS s 0 l := by unfold applyRes; rw [if_neg (by rw [e1]; simp)]; rfl
  rw [← hal] at hlen
  rw [size_mk]
  omega

theorem lexTokens_at (s : ByteArray) (h : (lexTokens s).2.2 = 0) (y : Piece) (hy : y ∈ (lexTokens s).1) : y.at_ ≤ s.size := by
  obtain ⟨_, _, _, _, ho⟩ := lexTokens_ok h
  obtain ⟨i, hi, rfl⟩ := List.getElem_of_mem hy
  have := pcOrd_at _ _ _ i _ ho (List.getElem?_eq_getElem hi)
  omega

set_option maxRecDepth 100000 in
set_option maxHeartbeats 2000000 in
theorem kept_any (s : ByteArray) (x : Spl) (w : World) (hs : s.size ≤ 140737488355328) (hx : x.text.size ≤ 140737488355328) (hn : NumVars w) :
    Calls Tryz.prog 12 #[.string s, .agg #[.int .i64 x.from_, .int .i64 x.to_, .string x.text]] w fun e w' => e = .returned (.tuple #[.int .i64 (keptRes s x).1, .int .i64 (keptRes s x).2.1, .int .i64 (keptRes s x).2.2]) ∧ Below w.heap.size w w' := by
  have hnew := World.alloc_heap_new w (.cells #[.int .i64 x.from_, .int .i64 x.to_, .string x.text] 40)
  have c0 := cell_of_row _ w.heap.size 0 _ 40 (0, 0) hnew
  have c1 := cell_of_row _ w.heap.size 1 _ 40 (0, 0) hnew
  have c2 := cell_of_row _ w.heap.size 2 _ 40 (0, 0) hnew
  have hb0 := (Below.refl w.heap.size w).alloc (Nat.le_refl _) (.cells #[.int .i64 x.from_, .int .i64 x.to_, .string x.text] 40)
  have hsp := spl_new' (w.alloc (.cells #[.int .i64 x.from_, .int .i64 x.to_, .string x.text] 40)) x
  rw [World.size_alloc w] at hsp
  have hb1 := hb0.alloc hb0.size (.cells #[.int .i64 x.from_, .int .i64 x.to_, .string x.text] 40)
  have HB1 := Lib.hid hb1
  have HN1 := Lib.hid (hn.keep hb1)
  have HS := Lib.hid hsp
  have C34 := Lib.hid (fun w v (h : SplIn w w.heap.size v [x]) => apply_any s v [x] w hs (by simp) (by intro y hy; simp at hy; subst hy; exact hx) h)
  clear hnew hb0 hb1 hsp hn
  by_cases he : (applyRes s [x]).2 = 0
  · have hsz := apply_mk_size he
    have HE := Lib.hid he
    have hr0 : keptRes s x = keptRes s x := rfl
    conv at hr0 => rhs; unfold keptRes
    rw [if_neg (by rw [he]; simp)] at hr0
    rw [he] at C34
    have hle : ((applyRes s [x]).1.length : Int) = (⟨(applyRes s [x]).1.toArray⟩ : ByteArray).size := by rw [size_mk]
    rw [hle] at hr0
    generalize (⟨(applyRes s [x]).1.toArray⟩ : ByteArray) = t at C34 hsz hr0
    clear he hle HE
    have C18 := Lib.hid (fun w (h : NumVars w) => tokens_any s w hs h)
    have C18b := Lib.hid (fun w (h : NumVars w) => tokens_any t w (by omega) h)
    by_cases h1 : (lexTokens s).2.2 = 0
    · by_cases h2 : (lexTokens t).2.2 = 0
      · rw [if_neg (by rw [h1]; simp), if_neg (by rw [h2]; simp)] at hr0
        have HA1 := Lib.hid (fun (y : Piece) (hy : y ∈ (lexTokens s).1) => lexTokens_at s h1 y hy)
        have hl1 := lexTokens_len s
        have hl2 := lexTokens_len t
        rw [h1] at C18
        rw [h2] at C18b
        have HR := Lib.hid hr0
        clear hr0 h1 h2
        generalize (lexTokens s).1 = l at HR C18 HA1 hl1
        generalize (lexTokens t).1 = m at HR C18b hl2
        have hkk := headG_le stayB l m
        have hg : IntKind.i64.wrap ((t.size : Int) - s.size) = (t.size : Int) - s.size := by rw [IntKind.wrap_i64]; omega
        go_enter Tryz.func12, Tryz.ntmps12
        go_wp2_with (first
          | (go_at_call 33; refine (C34.out _ _ HS.out).mono ?_; rintro e w1 ⟨rfl, hb1⟩; have HB2 := Lib.hid (HB1.out.trans (hb1.mono HB1.out.size)); have HN2 := Lib.hid (HN1.out.keep hb1); clear hb1 C34)
          | (go_at_call 4; refine (C18.out _ HN2.out).mono ?_; rintro e w2 ⟨v2, rfl, hb2, ht2⟩; have HB3 := Lib.hid (HB2.out.trans (hb2.mono HB2.out.size)); have HN3 := Lib.hid (HN2.out.keep hb2); have HT2 := Lib.hid (tokIn_of_own ht2); obtain ⟨A1, c1, rfl, hc1⟩ := own_cap ht2; have HC1 := Lib.hid hc1; clear hb2 ht2 HB2 C18 hc1)
          | (go_at_call 4; refine (C18b.out _ HN3.out).mono ?_; rintro e w3 ⟨v3, rfl, hb3, ht3⟩; have HB4 := Lib.hid (HB3.out.trans (hb3.mono HB3.out.size)); have HT2b := Lib.hid ((HT2.out.below hb3).more hb3.size); have HT3 := Lib.hid (tokIn_of_own ht3); obtain ⟨A2, c2, rfl, hc2⟩ := own_cap ht3; have HC2 := Lib.hid hc2; clear hb3 ht3 HB3 C18b hc2)
          | (go_at_call 35; refine (headsT_any _ _ l m _ hl1 hl2 HT2b.out HT3.out).mono ?_; rintro e w4 ⟨rfl, hb4⟩; have HB5 := Lib.hid (HB4.out.trans (hb4.mono HB4.out.size)); have HT2c := Lib.hid ((HT2b.out.below hb4).more hb4.size); have HT3c := Lib.hid ((HT3.out.below hb4).more hb4.size); clear hb4 HB4))
        obtain ⟨k, hk⟩ : ∃ k, k = headG stayB l m := ⟨_, rfl⟩
        rw [← hk] at hkk HR ⊢
        clear hk
        have hlt4 : w4.heap.size ≤ (w4.alloc (.cells #[.int .i64 ((t.size : Int) - s.size)] 3)).heap.size := by rw [World.size_alloc]; omega
        have hX := Lib.hid ((tokIn_cut HT2c.out HC1.out k).below ((Below.refl _ _).alloc (Nat.le_refl _) (.cells #[.int .i64 ((t.size : Int) - s.size)] 3)) |>.more hlt4)
        have hY := Lib.hid ((tokIn_cut HT3c.out HC2.out k).below ((Below.refl _ _).alloc (Nat.le_refl _) (.cells #[.int .i64 ((t.size : Int) - s.size)] 3)) |>.more hlt4)
        have hs1 : ∀ w, (Instr.slice 22 (.slice A1 l.length c1) (some (.int .i64 k)) none none).run Tryz.prog w = .ok (sliced A1 k l.length c1 3) w := fun w => slice23 w hkk.1
        have hs2 : ∀ w, (Instr.slice 22 (.slice A2 m.length c2) (some (.int .i64 k)) none none).run Tryz.prog w = .ok (sliced A2 k m.length c2 3) w := fun w => slice23 w hkk.2
        generalize sliced A1 k l.length c1 3 = X at hs1 hX
        generalize sliced A2 k m.length c2 3 = Y at hs2 hY
        have HCELL : Hid ((w4.alloc (.cells #[.int .i64 ((t.size : Int) - s.size)] 3)).cell? ⟨w4.heap.size, 0, none⟩ = some (.int .i64 ((t.size : Int) - s.size))) := Lib.hid (cell_of_row _ w4.heap.size 0 _ 3 (0, 0) (World.alloc_heap_new w4 _))
        have HB6 := Lib.hid (HB5.out.alloc HB5.out.size (.cells #[.int .i64 ((t.size : Int) - s.size)] 3))
        have C79 := Lib.hid (tailsT_any X Y (l.drop k) (m.drop k) ((t.size : Int) - s.size) w4.heap.size (w4.alloc (.cells #[.int .i64 ((t.size : Int) - s.size)] 3)).drew (by simp; omega) (by simp; omega)
          (fun y hy => by have := HA1.out y (List.mem_of_mem_drop hy); omega) (by omega) (by omega) (by rw [World.size_drew, World.size_alloc]; omega)
          (((Below.refl (w4.heap.size + 1) _).drew.cell (p := ⟨w4.heap.size, 0, none⟩) (Nat.lt_succ_self _)).trans HCELL.out)
          (by rw [World.size_drew]; exact hX.out.below (Below.refl _ _).drew) (by rw [World.size_drew]; exact hY.out.below (Below.refl _ _).drew))
        clear hX hY
        go_region_with (go_at_call 37; refine C79.out.mono ?_; rintro e w5 ⟨rfl, hb5⟩)
        all_goals have HB7 := Lib.hid (HB6.out.drew.trans (hb5.mono (by rw [World.size_drew]; exact HB6.out.size)))
        all_goals clear hb5
        all_goals go_wp2
        all_goals go_ret3
        all_goals rw [HR.out]
        all_goals exact ⟨rfl, HB7.out⟩
      · rw [if_neg (by rw [h1]; simp), if_pos h2] at hr0
        rw [h1] at C18
        have HR := Lib.hid hr0
        clear hr0 h1
        go_enter Tryz.func12, Tryz.ntmps12
        go_wp2_with (first
          | (go_at_call 33; refine (C34.out _ _ HS.out).mono ?_; rintro e w1 ⟨rfl, hb1⟩; have HB2 := Lib.hid (HB1.out.trans (hb1.mono HB1.out.size)); have HN2 := Lib.hid (HN1.out.keep hb1); clear hb1 C34)
          | (go_at_call 4; refine (C18.out _ HN2.out).mono ?_; rintro e w2 ⟨v2, rfl, hb2, ht2⟩; have HB3 := Lib.hid (HB2.out.trans (hb2.mono HB2.out.size)); have HN3 := Lib.hid (HN2.out.keep hb2); clear hb2 ht2 HB2 C18)
          | (go_at_call 4; refine (C18b.out _ HN3.out).mono ?_; rintro e w3 ⟨v3, rfl, hb3, ht3⟩; have HB4 := Lib.hid (HB3.out.trans (hb3.mono HB3.out.size)); clear hb3 ht3 HB3 C18b))
        go_ret3
        rw [HR.out]
        exact ⟨rfl, HB4.out⟩
    · rw [if_pos h1] at hr0
      have HR := Lib.hid hr0
      clear hr0
      go_enter Tryz.func12, Tryz.ntmps12
      go_wp2_with (first
        | (go_at_call 33; refine (C34.out _ _ HS.out).mono ?_; rintro e w1 ⟨rfl, hb1⟩; have HB2 := Lib.hid (HB1.out.trans (hb1.mono HB1.out.size)); have HN2 := Lib.hid (HN1.out.keep hb1); clear hb1 C34)
        | (go_at_call 4; refine (C18.out _ HN2.out).mono ?_; rintro e w2 ⟨v2, rfl, hb2, ht2⟩; have HB3 := Lib.hid (HB2.out.trans (hb2.mono HB2.out.size)); clear hb2 ht2 HB2 C18))
      go_ret3
      rw [HR.out]
      exact ⟨rfl, HB3.out⟩
  · have hr : keptRes s x = (0, 0, (applyRes s [x]).2) := by unfold keptRes; rw [if_pos he]
    go_enter Tryz.func12, Tryz.ntmps12
    go_wp2_with (go_at_call 33; refine (C34.out _ _ HS.out).mono ?_; rintro e w1 ⟨rfl, hb1⟩)
    go_ret3
    rw [hr]
    exact ⟨rfl, HB1.out.trans (hb1.mono HB1.out.size)⟩
end Go.Proofs.YtjadjmkbjolklaaGreatDoor
namespace Go.Proofs.YtjadjmkbjolklaaGreatDoor
open Go.RowKit

end Go.Proofs.YtjadjmkbjolklaaGreatDoor
namespace Go.Proofs.YtjadjmkbjolklaaGreatDoor
open Go.RowKit

theorem applyRes_code (s : ByteArray) (l : List Spl) : (applyRes s l).2 = (planAnyRes s l).2 := by
  unfold applyRes
  split
  · rfl
  · rename_i h
    simp only [ne_eq, Decidable.not_not] at h
    exact h.symm

theorem applyRes_aft {s : ByteArray} {l : List Spl} (h : (planAnyRes s l).2 = 0) : (applyRes s l).1 = aftS s 0 l := by
  unfold applyRes
  rw [if_neg (by rw [h]; simp)]
  rfl

end Go.Proofs.YtjadjmkbjolklaaGreatDoor
