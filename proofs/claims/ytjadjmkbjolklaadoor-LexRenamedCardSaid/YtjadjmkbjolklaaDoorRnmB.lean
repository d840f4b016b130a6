/- LexRenamed, the call. -/
import Derived.Test.YtjadjmkbjolklaaDoorRnmA
import Derived.Test.YtjadjmkbjolklaaDoorKeep
import Derived.BigQuiet
import Derived.Deep.QuietTactic
namespace Go.Proofs.YtjadjmkbjolklaaDoor
open Go.RowKit

theorem ren_parts {s old name : ByteArray} (h : (renameRes s old name).2 = 0) : (lexTokens s).2.2 = 0 ∧ isRightP 1 old = true ∧ isRightP 1 name = true ∧ renSpls old name (lexTokens s).1 ≠ [] ∧ (lexTokens s).1.any (fun t => decide (t.text = name)) = false ∧ (planRes s (renSpls old name (lexTokens s).1)).2 = 0 ∧ renameRes s old name = (aftS s 0 (renSpls old name (lexTokens s).1), 0) := by
  have h0 := h
  unfold renameRes at h
  by_cases h1 : (lexTokens s).2.2 = 0
  · rw [if_neg (by simp [h1])] at h
    by_cases h2 : isRightP 1 old = false ∨ isRightP 1 name = false
    · rw [if_pos h2] at h
      exact absurd h (by decide)
    · rw [if_neg h2] at h
      by_cases h3 : renSpls old name (lexTokens s).1 = []
      · rw [if_pos h3] at h
        exact absurd h (by decide)
      · rw [if_neg h3] at h
        by_cases h4 : (lexTokens s).1.any (fun t => decide (t.text = name)) = true
        · rw [if_pos h4] at h
          exact absurd h (by decide)
        · rw [if_neg h4] at h
          by_cases h5 : (planRes s (renSpls old name (lexTokens s).1)).2 = 0
          · have h2a : isRightP 1 old = true := by
              cases hh : isRightP 1 old
              · exact absurd (.inl hh) h2
              · rfl
            have h2b : isRightP 1 name = true := by
              cases hh : isRightP 1 name
              · exact absurd (.inr hh) h2
              · rfl
            refine ⟨h1, h2a, h2b, h3, by simpa using h4, h5, ?_⟩
            unfold renameRes
            rw [if_neg (by simp [h1]), if_neg h2, if_neg h3, if_neg h4, if_neg (by simp [h5])]
            rfl
          · rw [if_pos h5] at h
            exact absurd h h5
  · rw [if_pos h1] at h
    exact absurd h h1

theorem renSpls_nil {old name : ByteArray} : ∀ {l : List Piece}, renSpls old name l = [] ↔ ∀ x ∈ l, x.text ≠ old
  | [] => by simp [renSpls]
  | t :: r => by
    rw [renSpls]
    by_cases h : t.text = old
    · rw [if_pos h]
      constructor
      · intro e
        cases e
      · intro e
        exact absurd h (e t (.head _))
    · rw [if_neg h, renSpls_nil]
      constructor
      · intro e x hx
        rcases List.mem_cons.1 hx with rfl | hx
        · exact h
        · exact e x hx
      · intro e x hx
        exact e x (.tail _ hx)

/-- All that LexRenamed asks. -/
theorem renamed_ok {s old name : ByteArray} (h : (renameRes s old name).2 = 0) : ∃ (t : ByteArray) (b : List Piece), renameRes s old name = (t.data.toList, 0) ∧ t.size ≤ 2500 ∧ (lexTokens s).2.2 = 0 ∧ lexTokens t = (b, 0, 0) ∧ renameRes t name old = (s.data.toList, 0) ∧
    b.map (fun p => (p.kind, p.text)) = (lexTokens s).1.map (fun p => (p.kind, if p.text = old then name else p.text)) ∧ (∀ x ∈ (lexTokens s).1, x.text = old → x.kind = 1) ∧ (lexTokens s).1.length ≤ 900 ∧ old ≠ name := by
  obtain ⟨h1, hO, hN, h3, h4, h5, h6⟩ := ren_parts h
  obtain ⟨g, l, hg, hl, hs, hp⟩ := pcs_segs s
  obtain ⟨ht0, hacc, _, h9, hord⟩ := lexTokens_ok h1
  have hOb := right_name hO
  have hNb := right_name hN
  have hgs := good_swps hOb hNb l hl
  have hzs : s.data.toList.length = s.size := by simp
  have hsz := congrArg List.length hs
  rw [List.length_append] at hsz
  have hdr : s.data.toList.drop g.length = rend l [] := by rw [hs, List.drop_left' rfl]
  have htg : (s.data.toList.drop 0).take (g.length - 0) = g := by rw [List.drop_zero, Nat.sub_zero, hs, List.take_left' rfl]
  have htok := tokens_tks h1
  have haft : aftS s 0 (renSpls old name (lexTokens s).1) = g ++ rend (swps old.data.toList name.data.toList l) [] := by
    rw [htok, hp, aft_swps hO l g.length 0 (Nat.zero_le _) (by omega) hdr hl, htg]
  have hlen25 : (aftS s 0 (renSpls old name (lexTokens s).1)).length ≤ 2500 := by
    have := ren_size (old := old) (name := name) hord
    unfold planRes at h5
    split at h5
    · exact absurd h5 (by decide)
    · omega
  rw [haft] at h6 hlen25
  have hbytes : ∀ c ∈ s.data.toList, inCls [1, 2, 3, 4, 5, 6, 7] c = true := by
    refine txt_mem.1 ?_
    unfold textErr at ht0
    split at ht0
    · cases ht0
    · split at ht0
      · cases ht0
      · have := txt_le s
        omega
  have hnb : ∀ c ∈ name.data.toList, inCls [1, 2, 3, 4, 5, 6, 7] c = true := fun c hc => (right_bytes (x := ⟨1, name, 0⟩) hN c hc).1
  have hbt : ∀ c ∈ g ++ rend (swps old.data.toList name.data.toList l) [], inCls [1, 2, 3, 4, 5, 6, 7] c = true := by
    intro c hc
    rcases List.mem_append.1 hc with hc | hc
    · exact hbytes c (by rw [hs]; exact List.mem_append_left _ hc)
    · exact txt_swps hnb l (fun d hd => hbytes d (by rw [hs]; exact List.mem_append_right _ hd)) c hc
  have hE := textErr_fine hlen25 hbt
  have hz : (⟨(g ++ rend (swps old.data.toList name.data.toList l) []).toArray⟩ : ByteArray).size = (g ++ rend (swps old.data.toList name.data.toList l) []).length := by simp [ByteArray.size]
  have hdt : (⟨(g ++ rend (swps old.data.toList name.data.toList l) []).toArray⟩ : ByteArray).data.toList = g ++ rend (swps old.data.toList name.data.toList l) [] := by simp
  generalize (⟨(g ++ rend (swps old.data.toList name.data.toList l) []).toArray⟩ : ByteArray) = t at hE hz hdt
  have hpt : pcs t = segP g.length (swps old.data.toList name.data.toList l) := by
    rw [pcs_eq, hdt, pcsG_seg _ _ _ _ _ hg hgs (by omega), pcsL_nil, List.append_nil, Nat.zero_add]
  have hmap := tks_swps hO hN l g.length g.length
  have herr := err_swps (old := old) hN l g.length g.length (fun p hp' hn => tokAcc_err _ _ _ hacc p (by rw [hp]; exact hp') hn)
  have hcnt : (tks (segP g.length (swps old.data.toList name.data.toList l))).length = (lexTokens s).1.length := by
    have := congrArg List.length hmap
    rw [List.length_map, List.length_map] at this
    rw [this, htok, hp]
  have hlt : lexTokens t = (tks (segP g.length (swps old.data.toList name.data.toList l)), 0, 0) := by
    unfold lexTokens
    rw [hE, if_pos rfl, hpt, tokRes_tks _ [] herr (by rw [hcnt]; simpa using h9)]
    rfl
  rw [← hp, ← htok] at hmap
  generalize hb : tks (segP g.length (swps old.data.toList name.data.toList l)) = b at hlt hmap hcnt
  have hnoname : ∀ x ∈ (lexTokens s).1, x.text ≠ name := by
    intro x hx e
    have := List.any_eq_false.1 h4 x hx
    simp [e] at this
  have hold : ∃ x ∈ (lexTokens s).1, x.text = old := by
    by_cases hh : ∃ x ∈ (lexTokens s).1, x.text = old
    · exact hh
    · exact absurd (renSpls_nil.2 (fun x hx e => hh ⟨x, hx, e⟩)) h3
  obtain ⟨x0, hx0, hx0t⟩ := hold
  have hne : old ≠ name := by
    rintro rfl
    exact hnoname x0 hx0 hx0t
  have hmem : ∀ y ∈ b, ∃ x ∈ (lexTokens s).1, y.text = if x.text = old then name else x.text := by
    intro y hy
    have : (y.kind, y.text) ∈ b.map (fun p => (p.kind, p.text)) := List.mem_map.2 ⟨y, hy, rfl⟩
    rw [hmap] at this
    obtain ⟨x, hx, e⟩ := List.mem_map.1 this
    exact ⟨x, hx, (Prod.mk.inj e).2.symm⟩
  have hnn : ∀ x ∈ l, x.1 ≠ name.data.toList := by
    have hgen : ∀ (m : List (List UInt8 × List UInt8)) (k : Nat), (∀ x ∈ tks (segP k m), x.text ≠ name) → ∀ x ∈ m, x.1 ≠ name.data.toList := by
      intro m
      induction m with
      | nil => intro k _ x hx; cases hx
      | cons a m ih =>
        obtain ⟨p, q⟩ := a
        intro k hk x hx
        rw [segP] at hk
        rcases List.mem_cons.1 hx with rfl | hx
        · rintro e
          dsimp only at e
          rw [e, pc_name hN k] at hk
          exact hk ⟨1, name, k, 0⟩ (List.mem_filter.2 ⟨.head _, rfl⟩) rfl
        · exact ih _ (fun y hy => hk y (by
            obtain ⟨y1, y2⟩ := List.mem_filter.1 hy
            exact List.mem_filter.2 ⟨.tail _ y1, y2⟩)) x hx
    exact hgen l g.length (by rw [← hp, ← htok]; exact hnoname)
  have hback : renameRes t name old = (s.data.toList, 0) := by
    have he' : (lexTokens t).2.2 = 0 := by rw [hlt]
    have hord' := (lexTokens_ok he').2.2.2.2
    have haft' : aftS t 0 (renSpls name old (lexTokens t).1) = s.data.toList := by
      have hdr' : t.data.toList.drop g.length = rend (swps old.data.toList name.data.toList l) [] := by rw [hdt, List.drop_left' rfl]
      have htg' : (t.data.toList.drop 0).take (g.length - 0) = g := by rw [List.drop_zero, Nat.sub_zero, hdt, List.take_left' rfl]
      have hzt : t.data.toList.length = t.size := by simp
      have hgl : g.length ≤ t.size := by rw [← hzt, hdt, List.length_append]; omega
      rw [tokens_tks he', hpt, aft_swps hN _ g.length 0 (Nat.zero_le _) hgl hdr' hgs, htg', swps_back l hnn, ← hs]
    have hs25 := textErr_ok ht0
    have hnn' : renSpls name old (lexTokens t).1 ≠ [] := by
      intro e
      have e2 := renSpls_nil.1 e
      have hx1 : (x0.kind, if x0.text = old then name else x0.text) ∈ (lexTokens s).1.map (fun p => (p.kind, if p.text = old then name else p.text)) := List.mem_map.2 ⟨x0, hx0, rfl⟩
      rw [← hmap, if_pos hx0t] at hx1
      obtain ⟨y, hy, ey⟩ := List.mem_map.1 hx1
      have : y.text = name := (Prod.mk.inj ey).2
      exact e2 y (by rw [hlt]; exact hy) this
    have htw : (lexTokens t).1.any (fun x => decide (x.text = old)) = false := by
      rw [List.any_eq_false]
      intro y hy
      rw [hlt] at hy
      obtain ⟨x, hx, e⟩ := hmem y hy
      rw [decide_eq_true_eq, e]
      by_cases hxo : x.text = old
      · rw [if_pos hxo]
        exact fun h => hne h.symm
      · rw [if_neg hxo]
        exact hxo
    rw [ren_res he' hN hO (mn := 1) (done := s) (tw := false) hord' haft' (by constructor <;> intro e <;> first | exact absurd e (by decide) | exact absurd e hnn') htw.symm]
    rw [if_neg (by decide), if_neg (by decide), if_neg (by omega)]
  exact ⟨t, b, by rw [hdt]; exact h6, by omega, h1, hlt, hback, hmap, name_kind h1 hO, h9, hne⟩

theorem bytes_mk' (b : ByteArray) : (⟨b.data.toList.toArray⟩ : ByteArray) = b := by
  apply ByteArray.ext
  simp

theorem map_get {old name : ByteArray} {a b : List Piece} (h : b.map (fun p => (p.kind, p.text)) = a.map (fun p => (p.kind, if p.text = old then name else p.text))) {k : Nat} {x : Piece} (hx : a[k]? = some x) :
    ∃ y, b[k]? = some y ∧ y.kind = x.kind ∧ y.text = if x.text = old then name else x.text := by
  have h1 := congrArg (fun l => l[k]?) h
  simp only [List.getElem?_map, hx, Option.map_some] at h1
  cases hb : b[k]? with
  | none =>
    rw [hb] at h1
    cases h1
  | some y =>
    rw [hb] at h1
    simp only [Option.map_some, Option.some.injEq, Prod.mk.injEq] at h1
    exact ⟨y, rfl, h1.1, h1.2⟩

set_option maxRecDepth 100000 in
set_option maxHeartbeats 4000000 in
theorem renamed_any (s old name : ByteArray) (w : World) (hs : s.size ≤ 140737488355328) (ho : old.size ≤ 140737488355328) (hnm : name.size ≤ 140737488355328) (hn : NumVars w) :
    Calls Tryd.prog 16 #[.string s, .string old, .string name] w fun e w' => e = .returned (.bool true) ∧ Below w.heap.size w w' := by
  have HN := Lib.hid hn
  clear hn
  by_cases h1 : 3000 < s.size
  · go_enter Tryd.func16, Tryd.ntmps16
    go_wp2_with (go_at_call 17; refine (awake_any _ HN.out).mono ?_; rintro e w1 ⟨rfl, hb1⟩)
    go_ret
    exact ⟨rfl, hb1⟩
  · by_cases h2 : 100 < old.size
    · go_enter Tryd.func16, Tryd.ntmps16
      go_wp2_with (go_at_call 17; refine (awake_any _ HN.out).mono ?_; rintro e w1 ⟨rfl, hb1⟩)
      go_ret
      exact ⟨rfl, hb1⟩
    · by_cases h3 : 100 < name.size
      · go_enter Tryd.func16, Tryd.ntmps16
        go_wp2_with (go_at_call 17; refine (awake_any _ HN.out).mono ?_; rintro e w1 ⟨rfl, hb1⟩)
        go_ret
        exact ⟨rfl, hb1⟩
      · have C45 := Lib.hid (fun w h => rename_any s old name w hs ho hnm h)
        by_cases he : (renameRes s old name).2 = 0
        · obtain ⟨t, b, e1, e2, e3, e4, e5, e6, e7, e8, e9⟩ := renamed_ok he
          have C45b := Lib.hid (fun w h => rename_any t name old w (by omega) hnm ho h)
          rw [e1, bytes_mk' t] at C45
          rw [e5, bytes_mk' s] at C45b
          have C18 := Lib.hid (fun w (h : NumVars w) => tokens_any s w hs h)
          have C18b := Lib.hid (fun w (h : NumVars w) => tokens_any t w (by omega) h)
          rw [e3] at C18
          rw [e4] at C18b
          have hlen : b.length = (lexTokens s).1.length := by
            have := congrArg List.length e6
            simpa using this
          have htt : (old.toList == name.toList) = false := by rw [toList_beq]; exact decide_eq_false e9
          have HM := Lib.hid e6
          have HK := Lib.hid e7
          clear e1 e3 e4 e5 e6 e7 e9 he
          generalize (lexTokens s).2.1 = z1 at C18
          generalize (lexTokens s).1 = a at C18 HM HK hlen e8
          go_enter Tryd.func16, Tryd.ntmps16
          go_wp2_with (first
            | (go_at_call 45; refine (C45.out _ HN.out).mono ?_; rintro e w1 ⟨rfl, hb1⟩; have HB1 := Lib.hid hb1; have HN1 := Lib.hid (HN.out.keep hb1); clear hb1 C45)
            | (go_at_call 45; refine (C45b.out _ HN1.out).mono ?_; rintro e w2 ⟨rfl, hb2⟩; have HB2 := Lib.hid (HB1.out.trans (hb2.mono HB1.out.size)); have HN2 := Lib.hid (HN1.out.keep hb2); clear hb2 HB1 HN1 C45b)
            | (go_at_call 18; refine (C18.out _ HN2.out).mono ?_; rintro e w3 ⟨v3, rfl, hb3, ht3⟩; have HB3 := Lib.hid (HB2.out.trans (hb3.mono HB2.out.size)); have HN3 := Lib.hid (HN2.out.keep hb3); have HT3 := Lib.hid (tokIn_of_own ht3); obtain ⟨A1, c1, rfl, hc1⟩ := own_cap ht3; clear hb3 ht3 hc1 HB2 HN2 C18)
            | (go_at_call 18; refine (C18b.out _ HN3.out).mono ?_; rintro e w4 ⟨v4, rfl, hb4, ht4⟩; have HB4 := Lib.hid (HB3.out.trans (hb4.mono HB3.out.size)); have HN4 := Lib.hid (HN3.out.keep hb4); have HT3b := Lib.hid ((HT3.out.below hb4).more hb4.size); have HT4 := Lib.hid (tokIn_of_own ht4); obtain ⟨A2, c2, rfl, hc2⟩ := own_cap ht4; clear hb4 ht4 hc2 HB3 HN3 HT3 C18b))
          go_loopw [17] (fun i wr => ∃ k : Nat, k ≤ a.length ∧ i = .int .i64 k ∧ Hid (Below w4.heap.size w4 wr)) (fun i _ => a.length - (intOf i).toNat)
          case atStart => exact ⟨0, by omega, rfl, Lib.hid (Below.refl _ _)⟩
          case round =>
            obtain ⟨k, hk, rfl, HW⟩ := hrel
            by_cases hlt : k < a.length
            · obtain ⟨x, hx⟩ : ∃ x, a[k]? = some x := ⟨_, List.getElem?_eq_getElem hlt⟩
              obtain ⟨y, hy, hyk, hyt⟩ := map_get HM.out hx
              have hltb : k < b.length := by omega
              obtain ⟨A', c', e', hA⟩ := HT3b.out.below HW.out
              cases e'
              obtain ⟨bb, off, rfl, hB, g1, g2, g3⟩ := hA k x hx
              obtain ⟨A', c', e', hA'⟩ := HT4.out.below HW.out
              cases e'
              obtain ⟨bb', off', rfl, hB', q1, q2, q3⟩ := hA' k y hy
              rw [hyk] at q1
              rw [hyt] at q2
              have hxk := HK.out x (List.mem_of_getElem? hx)
              clear hA hA' hx hy hyk hyt g3 q3
              by_cases hxo : x.text = old
              · rw [hxk hxo] at g1 q1
                rw [if_pos hxo] at q2
                rw [hxo] at g2
                clear hxk hxo
                go_wp2_with fail
                go_quiet (fail)
                go_wp2_with fail
                go_quiet (fail)
                go_wp2_with fail
                go_roundw
                case rel => exact ⟨k + 1, by omega, by go_num, Lib.hid (by first | exact below_drewN (below_drewN HW.out _) _ | exact below_drewN HW.out _)⟩
                case measure => simp [intOf]; omega
              · rw [if_neg hxo] at q2
                have hto : (x.text.toList == old.toList) = false := by rw [toList_beq]; exact decide_eq_false hxo
                clear hxk hxo
                go_wp2_with fail
                go_quiet (fail)
                go_wp2_with fail
                go_quiet (fail)
                go_wp2_with fail
                go_roundw
                case rel => exact ⟨k + 1, by omega, by go_num, Lib.hid (by first | exact below_drewN (below_drewN HW.out _) _ | exact below_drewN HW.out _)⟩
                case measure => simp [intOf]; omega
            · have HB6 := Lib.hid (HB4.out.trans (HW.out.mono HB4.out.size))
              have HN6 := Lib.hid (HN4.out.keep HW.out)
              go_wp2_with (go_at_call 17; refine (awake_any _ HN6.out).mono ?_; rintro e w7 ⟨rfl, hb7⟩)
              go_ret
              exact ⟨rfl, HB6.out.trans (hb7.mono HB6.out.size)⟩
        · have heb : ((renameRes s old name).2 != 0) = true := by simpa using he
          generalize renameRes s old name = r at C45 heb
          obtain ⟨r1, r2⟩ := r
          clear he
          go_enter Tryd.func16, Tryd.ntmps16
          go_wp2_with (first
            | (go_at_call 45; refine (C45.out _ HN.out).mono ?_; rintro e w1 ⟨rfl, hb1⟩; have HB1 := Lib.hid hb1; have HN1 := Lib.hid (HN.out.keep hb1); clear hb1 C45)
            | (go_at_call 17; refine (awake_any _ HN1.out).mono ?_; rintro e w2 ⟨rfl, hb2⟩))
          go_ret
          exact ⟨rfl, HB1.out.trans (hb2.mono HB1.out.size)⟩
end Go.Proofs.YtjadjmkbjolklaaDoor
