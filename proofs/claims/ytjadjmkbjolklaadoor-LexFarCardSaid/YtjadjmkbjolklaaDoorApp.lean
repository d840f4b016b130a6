/- Splices that are copied: append to nothing. -/
import Derived.Test.YtjadjmkbjolklaaDoorSplI
namespace Go.Proofs.YtjadjmkbjolklaaDoor
open Go.RowKit

theorem run_append_nothing (w : World) (c : Nat) (ty : TypeId) : (Builtin.append_ #[45, 45] ty #[.slice none 0 0, .slice none 0 c]).run Tryd.prog w = .ok (.slice none 0 0) w := by
  obtain ⟨i0, hi, _⟩ := info_parts info56
  simp [Builtin.append_, run_underlying Tryd.underlying45, sizeOf, typeInfo, hi, Builtin.lenOf, Builtin.firstCells]

/-- What append to nothing leaves of splices. -/
theorem wpList_append_spl {w : World} {ops : Array Oper} {rest : List Oper} {o : Oper} {a : Act} {Q : Exit → Act → World → Prop} (hgd : o.guard = none) (s x : Operand)
    (ho : o.op = .call { callee := .builtin .append, args := #[s, x], argTypes := #[45, 45] }) (B : Nat) (A : Option Addr) (n c : Nat) (l : List Spl) (hs : a.eval s = .slice none 0 0) (hx : a.eval x = .slice A n c)
    (hv : SplIn w B (.slice A n c) l) (hl : l.length * 32 ≤ 140737488355328)
    (h : ∀ v' w', SplIn w' w'.heap.size v' l → Below w.heap.size w w' → wpList Tryd.prog ops Q rest (a.put o.dst v') w') : wpList Tryd.prog ops Q (o :: rest) a w := by
  obtain ⟨i0, hi, hz0, hz1, hz2⟩ := info_parts info56
  cases A with
  | none =>
    have hl0 := splIn_none hv
    subst hl0
    obtain ⟨A', c', e, _⟩ := hv
    cases e
    refine wpList_plain hgd fun K hK => ?_
    have hrun := run_append_nothing w c o.type
    unfold Oper.wp
    simp only [List.length_nil] at hx
    simp [execOp, ho, resolve, invoke, builtin, hs, hx, hrun, Result.andThen]
    exact hK _ _ (h _ _ ⟨none, 0, rfl, fun i x h => by simp at h⟩ (Below.refl _ _))
  | some ad =>
    have hn : n = l.length := by
      obtain ⟨A', c', e, _⟩ := hv
      cases e
      rfl
    subst hn
    exact wpList_append_own w hgd s x 45 ho w.heap.size 56 i0 _ 3 32 Tryd.underlying45 hi hz0 hz1 hz2 rfl (by decide) _ 0 [] hs (World.ownsRow_nil _ _ _ _) ad l.length c (splCells l) hx (splCells_length l) (splIn_cells hv) (splCells_one l) (by unfold maxLen; omega) (by omega) (Nat.le_refl _)
      (fun v' w' hown hgrow _ => h v' w' (splIn_own0 hown) ((Below.refl _ _).grown hgrow (Nat.le_refl _) (fun k e => by cases e)))

theorem neq56_same (w : World) (x : Spl) : (binOp .neq 56 (.agg #[.int .i64 x.from_, .int .i64 x.to_, .string x.text]) (.agg #[.int .i64 x.from_, .int .i64 x.to_, .string x.text])).run Tryd.prog w = .ok (.bool false) w := by
  rw [neq56, decide_eq_true rfl]
  rfl

theorem diffRes_text (a b : ByteArray) : ∀ x ∈ (diffRes a b).1, x.text.size ≤ b.size := by
  intro x hx
  unfold diffRes at hx
  split at hx
  · cases hx
  · split at hx
    · cases hx
    · split at hx
      · cases hx
      · obtain rfl := List.mem_singleton.1 hx
        unfold diffSpl
        simp only [ByteArray.size_extract]
        omega

theorem mk_list (b : ByteArray) : (⟨b.data.toList.toArray⟩ : ByteArray) = b := by
  apply ByteArray.ext
  simp

set_option maxRecDepth 100000 in
set_option maxHeartbeats 2000000 in
theorem difference_any (a b : ByteArray) (w : World) (ha : a.size ≤ 140737488355328) (hb : b.size ≤ 140737488355328) (hn : NumVars w) :
    Calls Tryd.prog 15 #[.string a, .string b] w fun e w' => e = .returned (.bool true) ∧ Below w.heap.size w w' := by
  have HN := Lib.hid hn
  clear hn
  by_cases h1 : 3000 < a.size
  · go_enter Tryd.func15, Tryd.ntmps15
    go_wp2_with (go_at_call 17; refine (awake_any _ HN.out).mono ?_; rintro e w1 ⟨rfl, hb1⟩)
    go_ret
    exact ⟨rfl, hb1⟩
  · by_cases h2 : 3000 < b.size
    · go_enter Tryd.func15, Tryd.ntmps15
      go_wp2_with (go_at_call 17; refine (awake_any _ HN.out).mono ?_; rintro e w1 ⟨rfl, hb1⟩)
      go_ret
      exact ⟨rfl, hb1⟩
    · by_cases he : (diffRes a b).2 = 0
      · obtain ⟨d1, d2, d3, d4, d5, d6, d7⟩ := diff_ok he
        have hta := diffRes_text a b
        have C41 := Lib.hid (fun w => diff_any a b w ha hb)
        have C41b := Lib.hid (fun w => diff_any b a w hb ha)
        rw [he] at C41
        rw [d5] at C41b
        generalize (diffRes a b).1 = l at C41 d3 d4 d6 d7 hta
        generalize (diffRes b a).1 = u at C41b d4 d7
        have htl : ∀ x ∈ l, x.text.size ≤ 140737488355328 := fun x hx => Nat.le_trans (hta x hx) hb
        have C34 : Hid (∀ w v, SplIn w w.heap.size v l → Calls Tryd.prog 34 #[.string a, v] w fun e w' => e = .returned (.tuple #[.string b, .int .i64 0]) ∧ Below w.heap.size w w') := Lib.hid (fun w v h => by
          have h := apply_any a v l w ha (by omega) htl h
          rw [d3] at h
          rw [mk_list] at h
          exact h)
        have C38 : Hid (∀ w v, SplIn w w.heap.size v l → Calls Tryd.prog 38 #[.string a, v] w fun e w' => ∃ v', e = .returned (.tuple #[v', .int .i64 0]) ∧ Below w.heap.size w w' ∧ SplIn w' w'.heap.size v' u) := Lib.hid (fun w v h => by
          have h := undo_any a v l w ha (by omega) htl h
          rw [d4] at h
          exact h)
        have hl1 : l.length ≤ 1 := d6
        have hu1 : u.length ≤ 1 := by omega
        have hlu : ((l.length : Int) != u.length) = false := by simp; omega
        have HL := Lib.hid (show l.length * 32 ≤ 140737488355328 by omega)
        clear hta htl d1 d2 d3 d4 d5 d6 d7 he
        go_enter Tryd.func15, Tryd.ntmps15
        go_wp2_with (first
          | (go_at_call 41; refine (C41.out _).mono ?_; rintro e w1 ⟨v1, rfl, hb1, hs1⟩; have HB1 := Lib.hid hb1; have HS1 := Lib.hid hs1; obtain ⟨A1, c1, rfl, _⟩ := hs1; clear hb1 C41)
          | (at_builtin; refine wpList_append_spl rfl _ _ rfl _ A1 l.length c1 l rfl rfl HS1.out HL.out ?_; intro v2 w2 hs2 hb2; have HS2 := Lib.hid hs2; have HB2 := Lib.hid (HB1.out.trans (hb2.mono HB1.out.size)); have HS1b := Lib.hid ((HS1.out.below hb2).more hb2.size); clear HB1 HS1 hs2 hb2)
          | (go_at_call 34; refine (C34.out _ _ HS2.out).mono ?_; rintro e w3 ⟨rfl, hb3⟩; have HB3 := Lib.hid (HB2.out.trans (hb3.mono HB2.out.size)); have HS1c := Lib.hid ((HS1b.out.below hb3).more hb3.size); clear hb3 HB2 HS2 HS1b C34)
          | (at_builtin; refine wpList_append_spl rfl _ _ rfl _ A1 l.length c1 l rfl rfl HS1c.out HL.out ?_; intro v4 w4 hs4 hb4; have HS4 := Lib.hid hs4; have HB4 := Lib.hid (HB3.out.trans (hb4.mono HB3.out.size)); clear HB3 HS1c hs4 hb4)
          | (go_at_call 38; refine (C38.out _ _ HS4.out).mono ?_; rintro e w5 ⟨v5, rfl, hb5, hs5⟩; have HB5 := Lib.hid (HB4.out.trans (hb5.mono HB4.out.size)); have HS5 := Lib.hid hs5; obtain ⟨A5, c5, rfl, _⟩ := hs5; clear hb5 HB4 HS4 C38)
          | (go_at_call 41; refine (C41b.out _).mono ?_; rintro e w6 ⟨v6, rfl, hb6, hs6⟩; have HB6 := Lib.hid (HB5.out.trans (hb6.mono HB5.out.size)); have HS5b := Lib.hid ((HS5.out.below hb6).more hb6.size); have HS6 := Lib.hid hs6; obtain ⟨A6, c6, rfl, _⟩ := hs6; clear hb6 HB5 HS5 C41b))
        go_loopw [13] (fun i wr => ∃ k : Nat, k ≤ u.length ∧ i = .int .i64 k ∧ Below w.heap.size w wr ∧ Below w6.heap.size w6 wr) (fun i _ => u.length - (intOf i).toNat)
        case atStart => exact ⟨0, by omega, rfl, HB6.out, Below.refl _ _⟩
        case round =>
          obtain ⟨k, hk, rfl, hbw, hbb⟩ := hrel
          by_cases hlt : k < u.length
          · obtain ⟨x, hx⟩ : ∃ x, u[k]? = some x := ⟨_, List.getElem?_eq_getElem hlt⟩
            obtain ⟨A', c', e', hA⟩ := HS5b.out.below hbb
            cases e'
            obtain ⟨bb, off, rfl, hB, g1, g2, g3⟩ := hA k x hx
            obtain ⟨A', c', e', hA'⟩ := HS6.out.below hbb
            cases e'
            obtain ⟨bb', off', rfl, hB', g1', g2', g3'⟩ := hA' k x hx
            have hq := fun w => neq56_same w x
            have hgu := guard56
            clear hA hA' hx
            go_wp2_with fail
            go_quiet (fail)
            go_wp2
            go_roundw
            case rel => exact ⟨k + 1, by omega, by go_num, below_drewN hbw _, below_drewN hbb _⟩
            case measure => simp [intOf]; omega
          · have HBW := Lib.hid hbw
            go_wp2_with (go_at_call 17; refine (awake_any _ (HN.out.keep HBW.out)).mono ?_; rintro e w7 ⟨rfl, hb7⟩)
            go_ret
            exact ⟨rfl, HBW.out.trans (hb7.mono HBW.out.size)⟩
      · have heb : ((diffRes a b).2 != 0) = true := by simpa using he
        have C41 := Lib.hid (fun w => diff_any a b w ha hb)
        generalize (diffRes a b).2 = e0 at heb C41
        clear he
        go_enter Tryd.func15, Tryd.ntmps15
        go_wp2_with (first
          | (go_at_call 41; refine (C41.out _).mono ?_; rintro e w1 ⟨v1, rfl, hb1, hs1⟩; clear hs1)
          | (go_at_call 17; refine (awake_any _ (HN.out.keep hb1)).mono ?_; rintro e w2 ⟨rfl, hb2⟩))
        go_ret
        exact ⟨rfl, hb1.trans (hb2.mono hb1.size)⟩
end Go.Proofs.YtjadjmkbjolklaaDoor
